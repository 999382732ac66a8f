/- Walks: the program's TreeOk. Walks of the law's marks in bytes: markByteS writes k, k+1, .. by 256 into a slice that may be written; heldByteS finds them there. Lists of items that own their memory: the row and all bodies lie apart, at B or behind. The law's own helpers markItemS and heldItemS over them. Walks: lists of bytes put behind each other: slices.Clone, slices.Grow, slices.Concat, appendWord. A list of items in the making by appends: its row, and bodies apart from it and from one another. -/
import Derived.Test.YtkogbinfhoiggaaGreatDoorCx03
import Derived.Test.YtkogbinfhoiggaaGreatDoorRows
import Derived.ProofKit
import Derived.OpenShut
import Derived.ChangeOld
import Derived.Lib.AppendZerosOnto
import Derived.Laws.OwnMore
namespace Go.Proofs.YtkogbinfhoiggaaGreatDoor
set_option linter.unusedVariables false
set_option linter.unusedSimpArgs false
section
open Go.RowKit Go.Shelf
attribute [local go_sem] Oper.semAt_some
theorem rd_ext {X : Nat → Prop} {B : Nat} {W W' : World} (h : Ext W W') : Rd X B W W' := ⟨h.os, h.tape, h.output, h.size, fun k _ hk => h.block k hk⟩
theorem rd_set {X : Nat → Prop} {B : Nat} {W W' : World} (h : Rd X B W W') {k o : Nat} (hk : k < B) (hx : ¬ X k) (v : Value) : Rd X B W (W'.setCell ⟨k, o, none⟩ v) :=
 h.trans ⟨rfl, rfl, rfl, by simp [World.setCell], fun j hj _ => Below.heap_setCell _ _ _ _ (by rintro rfl; rcases hj with hj | hj; exact absurd hj (by simp; omega); exact hx hj)⟩
theorem cell_set_other {W : World} {k k' o o' : Nat} (v : Value) (h : k ≠ k') : (W.setCell ⟨k, o, none⟩ v).cell? ⟨k', o', none⟩ = W.cell? ⟨k', o', none⟩ :=
 World.cell?_setCell_other _ _ _ _ (fun e => h (by have := congrArg Addr.block e; simp at this; omega))
theorem load_bool {W : World} {q : Addr} {v : Value} (h : W.cell? q = some v) : (loadVar 4 q).run Tryz.prog W = .ok v W := by
 have ha : (isAgg 4).run Tryz.prog W = .ok false W := by kernel_rfl
 simp [loadVar, Sem.run_bind, ha, load, h, Result.andThen, Sem.run]
theorem results_one {P : Program} {fn : Func} {a : Nat} {T : TypeId} (hf : fn.results = #[.cell a T]) {tmps : Array Value} {q : Addr} {v : Value} {W : World} (ht : tmps.getD a undef = .pointer (some q)) (hl : (loadVar T q).run P W = .ok v W) : (results fn tmps).run P W = .ok v W := by
 unfold results
 rw [hf]
 rw [Array.getD_eq_getD_getElem?] at ht
 simp [ht, asAddr, hl, Sem.run_bind, Sem.run_pure, Result.andThen_ok]
structure TrI0 (w : World) (v : Int) (a : Option Addr) (n cap : Nat) (W : World) : Prop where
 c2 : W.cell? ⟨w.heap.size + 1 + 1, 0, none⟩ = some (.int .i64 v)
 f2 : W.frozen? ⟨w.heap.size + 1 + 1, 0, none⟩ = false
 c1 : W.cell? ⟨w.heap.size + 1, 0, none⟩ = some (.bool false)
 f1 : W.frozen? ⟨w.heap.size + 1, 0, none⟩ = false
 c0 : W.cell? ⟨w.heap.size, 0, none⟩ = some (.slice a n cap)
 ext : Ext w W
theorem TrI0.low {w : World} {v : Int} {a : Option Addr} {n cap B : Nat} (hB : w.heap.size + 5 ≤ B) {W W' : World} (h : TrI0 w v a n cap W) (k : Below B W W') : TrI0 w v a n cap W' :=
 ⟨(k.cell (p := ⟨w.heap.size + 1 + 1, 0, none⟩) (by simp; omega)).trans h.c2, (k.frozen (p := ⟨w.heap.size + 1 + 1, 0, none⟩) (by simp; omega)).trans h.f2,
  (k.cell (p := ⟨w.heap.size + 1, 0, none⟩) (by simp; omega)).trans h.c1, (k.frozen (p := ⟨w.heap.size + 1, 0, none⟩) (by simp; omega)).trans h.f1,
  (k.cell (p := ⟨w.heap.size, 0, none⟩) (by simp; omega)).trans h.c0, Below.trans h.ext (k.mono (by omega))⟩
theorem TrI0.set1 {w : World} {v : Int} {a : Option Addr} {n cap : Nat} {W : World} (h : TrI0 w v a n cap W) : TrI0 w v a n cap (W.setCell ⟨w.heap.size + 1, 0, none⟩ (.bool false)) :=
 ⟨by rw [cell_set_other _ (by omega)]; exact h.c2, by rw [World.frozen?_setCell]; exact h.f2, World.cell?_setCell_same _ _ _ h.c1, by rw [World.frozen?_setCell]; exact h.f1, by rw [cell_set_other _ (by omega)]; exact h.c0, below_touch h.ext ((Touch.refl (w.heap.size + 1) W).set 0 _) (by omega)⟩
theorem TrI0.set2 {w : World} {v : Int} {a : Option Addr} {n cap : Nat} {W : World} (h : TrI0 w v a n cap W) (v' : Int) : TrI0 w v' a n cap (W.setCell ⟨w.heap.size + 1 + 1, 0, none⟩ (.int .i64 v')) :=
 ⟨World.cell?_setCell_same _ _ _ h.c2, by rw [World.frozen?_setCell]; exact h.f2, by rw [cell_set_other _ (by omega)]; exact h.c1, by rw [World.frozen?_setCell]; exact h.f1, by rw [cell_set_other _ (by omega)]; exact h.c0, below_touch h.ext ((Touch.refl (w.heap.size + 1 + 1) W).set 0 _) (by omega)⟩
set_option maxHeartbeats 6400000 in
set_option maxRecDepth 100000 in
theorem implTree_any (a : Option Addr) (b off n cap : Nat) (x : Nat → It) (w : World) (hs : ISeg w a b off n x) (hn : n ≤ 1048576) (hk : ∀ i, i < n → (x i).kid ≤ 9223372036854775807) :
  Calls Tryz.prog 96 #[.slice a n cap] w fun e w' => e = .returned (.bool (treeV x n)) ∧ Ext w w' := by
 by_cases h1 : 1 ≤ n
 ·have g1 : ¬ (n : Int) < 1 := by omega
  by_cases h300 : n ≤ 300
  ·have g2 : ¬ (300 : Int) < (n : Int) := by omega
   obtain rfl := hs.at' (by omega)
   have ltb : b < w.heap.size := hs.lt (by omega)
   refine (callsIn_wide (n := 9)).1 ?_
   refine callsIn_of_wp_marks Tryz.func96 rfl trivial ?_
   simp only [Tryz.ntmps96, List.size_toArray, List.length_cons, List.length_nil, Nat.reduceAdd, Nat.reduceSub, Array.replicate_succ, Array.replicate_zero, List.push_toArray, List.append_toArray, List.nil_append, List.cons_append]
   gi_wp2_with (first | (gi_at_call 99; refine (callsIn_wide.2 (below_any _ _ _ _ _)).mono ?_; rintro e w1 ⟨rfl, rfl⟩) | (refine ⟨trivial, ?_⟩; gi_at_call 99; refine (callsIn_wide.2 (below_any _ _ _ _ _)).mono ?_; rintro e w1 ⟨rfl, rfl⟩))
   obtain ⟨V, hV⟩ : ∃ V, (((((w.alloc (.cells #[.slice (some ⟨b, off, none⟩) n cap] 35)).alloc (.cells #[.bool false] 4)).alloc (.cells #[.int .i64 ((n : Int) - 1)] 3)).alloc (.cells #[.slice (some ⟨b, off, none⟩) n cap] 35)).alloc (.cells #[.int .i64 0] 3)) = V := ⟨_, rfl⟩
   obtain ⟨B0, B1, B2, B3, B4, hE, hsz⟩ := box5 w [.slice (some ⟨b, off, none⟩) n cap] [.bool false] [.int .i64 ((n : Int) - 1)] [.slice (some ⟨b, off, none⟩) n cap] [.int .i64 0] 35 4 3 35 3 (w1 := V) (by rw [← hV]; exact Ext.refl _)
   have sV : V.heap.size = w.heap.size + 5 := by rw [← hV]; simp
   rw [hV]
   have hsV := hs.of_all hE
   have hseq := below1_in 8 (by omega) n 0 (w.heap.size + 1 + 1 + 1 + 1) (w.heap.size + 1 + 1 + 1) b off cap (fun i => (x i).kid) V (Nat.zero_le _) hn (by omega) (B4 0 _ rfl).1 (B3 0 _ rfl).1 (fun i hi => hsV.c2 i hi) hk
   have Hs := hide hs
   have HsV := hide hsV
   have hVs : w.heap.size + 5 ≤ V.heap.size := by omega
   have I0 : TrI0 w ((n : Int) - 1) (some ⟨b, off, none⟩) n cap V := ⟨(B2 0 _ rfl).1, (B2 0 _ rfl).2, (B1 0 _ rfl).1, (B1 0 _ rfl).2, (B0 0 _ rfl).1, hE⟩
   clear hs hsV B0 B1 B2 B3 B4
   refine range_own (n := 9) (by omega) (gf := 125) (lb := #[.pointer (some ⟨w.heap.size + 1 + 1 + 1 + 1, 0, none⟩), .pointer (some ⟨w.heap.size + 1 + 1 + 1, 0, none⟩)]) rfl (enters_of Tryz.func125 (by kernel_rfl) rfl) (w0 := V) (fun k hk => by rcases hk with h | h | h <;> omega) hseq (Below.refl _ _) (fun _ => rfl)
    (fun pre W => ∃ v, chk x (pre.map (·.1)) ((n : Int) - 1) = some v ∧ TrI0 w v (some ⟨b, off, none⟩) n cap W)
    (fun c pre W => c = .ret ∧ chk x (pre.map (·.1)) ((n : Int) - 1) = none ∧ ∃ v, TrI0 w v (some ⟨b, off, none⟩) n cap W)
    (fun s A C ⟨v, h1, h2⟩ k => ⟨v, h1, h2.low hVs k⟩) (fun c s A C ⟨h0, h1, v, h2⟩ k => ⟨h0, h1, v, h2.low hVs k⟩) ⟨_, rfl, I0⟩
    (fun p => { tmps := #[.slice (some ⟨b, off, none⟩) n cap, .pointer (some ⟨w.heap.size, 0, none⟩), .pointer (some ⟨w.heap.size + 1, 0, none⟩), .pointer (some ⟨w.heap.size + 1 + 1, 0, none⟩), .int .i64 (p.1.1 : Int), .int .i64 (p.1.2 : Int), undef, .slice (some ⟨b, off, none⟩) n cap, .int .i64 (n : Int), .bool false, .bool false, .slice (some ⟨b, off, none⟩) n cap, .int .i64 (n : Int), .bool false, .bool false, .slice (some ⟨b, off, none⟩) n cap, .int .i64 (n : Int), .int .i64 ((n : Int) - 1), .slice (some ⟨b, off, none⟩) n cap, .func (.func 125) #[] #[.pointer (some ⟨w.heap.size + 1 + 1 + 1 + 1, 0, none⟩), .pointer (some ⟨w.heap.size + 1 + 1 + 1, 0, none⟩)], .int .i64 (p.1.1 : Int), .int .i64 (p.1.2 : Int), undef, undef, undef, undef, undef, undef, undef, undef, undef, undef, undef, undef, undef, undef, undef, undef, undef, undef, undef, undef, undef, undef, undef], defers := [] }) ?assign ?body ?done ?stop
   case assign =>
    intro l p W K hK
    simp only [encP]
    gi_wp2
    exact hK
   case body =>
    rintro l pre ⟨⟨i, r⟩, hi⟩ W ⟨v, hc, hI⟩ hW2 hlen
    have hWs : w.heap.size + 5 ≤ W.heap.size := by omega
    have hsW := Hs.out.of_all hI.ext
    have a0 := hsW.c0 i hi
    have a1 := hsW.c1 i hi
    have a2 := hsW.c2 i hi
    have hin : (i : Int) < (n : Int) := by omega
    have hv := chk_range x _ _ _ (by omega) hc
    have HIt : Hid (∀ w, Calls Tryz.prog 123 #[.agg #[.int .i64 (x i).tag, .slice (x i).ad (x i).len (x i).cap, .int .i64 (x i).kid]] w fun e w' => e = .returned (.bool (decide (itP (x i)))) ∧ Ext w w') := fun w => itemOk_any (x i) w (hsW.small i hi)
    have kn : (W.alloc (.cells #[.int .i64 (x i).tag, .slice (x i).ad (x i).len (x i).cap, .int .i64 (x i).kid] 40)).cell? ⟨W.heap.size, 2, none⟩ = some (.int .i64 (x i).kid) := (Blk.alloc W [.int .i64 (x i).tag, .slice (x i).ad (x i).len (x i).cap, .int .i64 (x i).kid] 40 2 _ rfl).1
    have d0 := hI.c0
    clear hsW hseq I0 HsV Hs
    by_cases q1 : itP (x i)
    ·rw [decide_eq_true q1] at HIt
     have hkid := itP_kid q1
     by_cases q2 : r ≤ 12
     ·by_cases q3 : (x i).kid ≤ v
      ·have HN : Hid (chk x ((pre ++ [(⟨(i, r), hi⟩ : Pl n)]).map (·.1)) ((n : Int) - 1) = some (v - (x i).kid)) := by
        show _ = _
        rw [List.map_append, List.map_singleton, chk_one x _ _ _ v hc, if_pos ⟨q1, q2, q3⟩]
       have e1 : ¬ (12 : Int) < (r : Int) := by omega
       have e2 : ¬ v < (x i).kid := by omega
       have e3 : wrap64 (v - (x i).kid) = v - (x i).kid := by unfold wrap64; omega
       gi_wp2_with (first | (gi_at_call 123; refine (CallsIn.inRound l (callsIn_wide.2 (HIt.out _))).mono ?_; rintro e W3 ⟨rfl, hE3⟩; have HE3 := hide (Ext.trans (Ext.alloc W _) hE3); have k2 := (Below.cell hE3 (p := ⟨W.heap.size, 2, none⟩) (by simp)).trans kn; have J3 := hI.low hWs HE3.out; obtain ⟨c2, f2, c1, f1, c0, ex⟩ := J3; clear hE3) | (refine ⟨trivial, ?_⟩; gi_at_call 123; refine (CallsIn.inRound l (callsIn_wide.2 (HIt.out _))).mono ?_; rintro e W3 ⟨rfl, hE3⟩; have HE3 := hide (Ext.trans (Ext.alloc W _) hE3); have k2 := (Below.cell hE3 (p := ⟨W.heap.size, 2, none⟩) (by simp)).trans kn; have J3 := hI.low hWs HE3.out; obtain ⟨c2, f2, c1, f1, c0, ex⟩ := J3; clear hE3))
       exact ⟨rd_set (rd_ext HE3.out) (by omega) (by rintro (h | h | h) <;> omega) _, _, HN.out, (TrI0.mk c2 f2 c1 f1 c0 ex).set2 _⟩
      ·have hok : ¬ okAt x v (i, r) := fun h => q3 h.2.2
       have e1 : ¬ (12 : Int) < (r : Int) := by omega
       have e2 : v < (x i).kid := by omega
       have HN : Hid (chk x ((pre ++ [(⟨(i, r), hi⟩ : Pl n)]).map (·.1)) ((n : Int) - 1) = none) := by
        show _ = _
        rw [List.map_append, List.map_singleton, chk_one x _ _ _ v hc, if_neg hok]
       gi_wp2_with (first | (gi_at_call 123; refine (CallsIn.inRound l (callsIn_wide.2 (HIt.out _))).mono ?_; rintro e W3 ⟨rfl, hE3⟩; have HE3 := hide (Ext.trans (Ext.alloc W _) hE3); have k2 := (Below.cell hE3 (p := ⟨W.heap.size, 2, none⟩) (by simp)).trans kn; have J3 := hI.low hWs HE3.out; obtain ⟨c2, f2, c1, f1, c0, ex⟩ := J3; clear hE3) | (refine ⟨trivial, ?_⟩; gi_at_call 123; refine (CallsIn.inRound l (callsIn_wide.2 (HIt.out _))).mono ?_; rintro e W3 ⟨rfl, hE3⟩; have HE3 := hide (Ext.trans (Ext.alloc W _) hE3); have k2 := (Below.cell hE3 (p := ⟨W.heap.size, 2, none⟩) (by simp)).trans kn; have J3 := hI.low hWs HE3.out; obtain ⟨c2, f2, c1, f1, c0, ex⟩ := J3; clear hE3))
       exact ⟨rd_set (rd_ext HE3.out) (by omega) (by rintro (h | h | h) <;> omega) _, rfl, HN.out, _, (TrI0.mk c2 f2 c1 f1 c0 ex).set1⟩
     ·have hok : ¬ okAt x v (i, r) := fun h => q2 h.2.1
      have e1 : (12 : Int) < (r : Int) := by omega
      have HN : Hid (chk x ((pre ++ [(⟨(i, r), hi⟩ : Pl n)]).map (·.1)) ((n : Int) - 1) = none) := by
       show _ = _
       rw [List.map_append, List.map_singleton, chk_one x _ _ _ v hc, if_neg hok]
      gi_wp2_with (first | (gi_at_call 123; refine (CallsIn.inRound l (callsIn_wide.2 (HIt.out _))).mono ?_; rintro e W3 ⟨rfl, hE3⟩; have HE3 := hide (Ext.trans (Ext.alloc W _) hE3); have k2 := (Below.cell hE3 (p := ⟨W.heap.size, 2, none⟩) (by simp)).trans kn; have J3 := hI.low hWs HE3.out; obtain ⟨c2, f2, c1, f1, c0, ex⟩ := J3; clear hE3) | (refine ⟨trivial, ?_⟩; gi_at_call 123; refine (CallsIn.inRound l (callsIn_wide.2 (HIt.out _))).mono ?_; rintro e W3 ⟨rfl, hE3⟩; have HE3 := hide (Ext.trans (Ext.alloc W _) hE3); have k2 := (Below.cell hE3 (p := ⟨W.heap.size, 2, none⟩) (by simp)).trans kn; have J3 := hI.low hWs HE3.out; obtain ⟨c2, f2, c1, f1, c0, ex⟩ := J3; clear hE3))
      exact ⟨rd_set (rd_ext HE3.out) (by omega) (by rintro (h | h | h) <;> omega) _, rfl, HN.out, _, (TrI0.mk c2 f2 c1 f1 c0 ex).set1⟩
    ·have hok : ¬ okAt x v (i, r) := fun h => q1 h.1
     rw [decide_eq_false q1] at HIt
     have HN : Hid (chk x ((pre ++ [(⟨(i, r), hi⟩ : Pl n)]).map (·.1)) ((n : Int) - 1) = none) := by
      show _ = _
      rw [List.map_append, List.map_singleton, chk_one x _ _ _ v hc, if_neg hok]
     gi_wp2_with (first | (gi_at_call 123; refine (CallsIn.inRound l (callsIn_wide.2 (HIt.out _))).mono ?_; rintro e W3 ⟨rfl, hE3⟩; have HE3 := hide (Ext.trans (Ext.alloc W _) hE3); have k2 := (Below.cell hE3 (p := ⟨W.heap.size, 2, none⟩) (by simp)).trans kn; have J3 := hI.low hWs HE3.out; obtain ⟨c2, f2, c1, f1, c0, ex⟩ := J3; clear hE3) | (refine ⟨trivial, ?_⟩; gi_at_call 123; refine (CallsIn.inRound l (callsIn_wide.2 (HIt.out _))).mono ?_; rintro e W3 ⟨rfl, hE3⟩; have HE3 := hide (Ext.trans (Ext.alloc W _) hE3); have k2 := (Below.cell hE3 (p := ⟨W.heap.size, 2, none⟩) (by simp)).trans kn; have J3 := hI.low hWs HE3.out; obtain ⟨c2, f2, c1, f1, c0, ex⟩ := J3; clear hE3))
     exact ⟨rd_set (rd_ext HE3.out) (by omega) (by rintro (h | h | h) <;> omega) _, rfl, HN.out, _, (TrI0.mk c2 f2 c1 f1 c0 ex).set1⟩
   case done =>
    rintro xs W hS ⟨v, hc, hI⟩ hlt hD
    have HV : Hid ((v == 0) = treeV x n) := by
     show _ = _
     rw [← runP_treeV x n h1 h300, runP_chk]
     rw [Nat.sub_zero] at hS
     rw [← hS, hc]
     rfl
    have HE := hide hI.ext
    obtain ⟨c2, f2, c1, f1, c0, ex⟩ := hI
    gi_wp2
    rw [sV] at hD hlt
    refine ⟨by simp, .inl ⟨_, _, rfl, run_takeDeferred (ds := []) ((Below.heap_setCell _ _ _ _ (by first | (simp; done) | (simp; omega))).trans hD), ?_⟩⟩
    refine ⟨.bool (v == 0), results_one Tryz.results96 rfl (load_bool ?_), ret_bool HV.out, ?_⟩
    ·refine (Below.cell (putObj_below (w.heap.size + 5) _ (w.heap.size + 5) _ (Nat.le_refl _)) (p := ⟨w.heap.size + 1, 0, none⟩) (by first | (simp; done) | (simp; omega))).trans ?_
     exact World.cell?_setCell_same _ _ _ c1
    ·exact Below.trans (below_touch HE.out ((Touch.refl (w.heap.size + 1) W).set 0 _) (by omega)) ((putObj_below (w.heap.size + 5) _ (w.heap.size + 5) _ (Nat.le_refl _)).mono (by omega))
   case stop =>
    rintro c pre W hSp ⟨rfl, hc, v, hI⟩ hlt hD
    have HV : Hid (false = treeV x n) := by
     show _ = _
     rw [← runP_treeV x n h1 h300, runP_chk]
     rw [Nat.sub_zero] at hSp
     rw [chk_prefix x _ _ _ hSp hc]
    have HE := hide hI.ext
    have c1 := hI.c1
    gi_wp2
    rw [sV] at hD hlt
    refine ⟨by simp, .inl ⟨_, _, rfl, run_takeDeferred (ds := []) hD, ?_⟩⟩
    refine ⟨.bool false, results_one Tryz.results96 rfl (load_bool ?_), ret_bool HV.out, ?_⟩
    ·exact (Below.cell (putObj_below (w.heap.size + 5) _ (w.heap.size + 5) _ (Nat.le_refl _)) (p := ⟨w.heap.size + 1, 0, none⟩) (by first | (simp; done) | (simp; omega))).trans c1
    ·exact Below.trans HE.out ((putObj_below (w.heap.size + 5) _ (w.heap.size + 5) _ (Nat.le_refl _)).mono (by omega))
  ·have g2 : (300 : Int) < (n : Int) := by omega
   go_enter Tryz.func96, Tryz.ntmps96
   go_wp2
   have B1 := box2 w [.slice a n cap] [.bool false] 35 4 (Ext.refl _)
   exact bodyPost_ret (results_one Tryz.results96 rfl (load_bool (B1.2.1 0 _ rfl).1)) rfl ⟨ret_bool (by unfold treeV; symm; rw [decide_eq_false_iff_not]; omega), B1.2.2.1⟩
 ·have g1 : (n : Int) < 1 := by omega
  go_enter Tryz.func96, Tryz.ntmps96
  go_wp2
  have B1 := box2 w [.slice a n cap] [.bool false] 35 4 (Ext.refl _)
  exact bodyPost_ret (results_one Tryz.results96 rfl (load_bool (B1.2.1 0 _ rfl).1)) rfl ⟨ret_bool (by unfold treeV; symm; rw [decide_eq_false_iff_not]; omega), B1.2.2.1⟩
end
section
open Go.RowKit
set_option maxHeartbeats 400000 in
theorem markByteS_any (a : Option Addr) (g off n cap : Nat) (f : Nat → Int) (k : Int) (w : World) (hs : BOwn w a g off n f) (hn : n ≤ 1048576) (hk0 : 0 ≤ k) (hk1 : k ≤ 1073741824) :
  Calls Tryz.prog 9 #[.slice a n cap, .int .i64 k] w fun e w' => e = .returned (.int .i64 (k + n)) ∧ BOwn w' a g off n (fun i => (k + i) % 256) ∧ Touch g w w' := by
 go_enter Tryz.func9, Tryz.ntmps9
 go_wp2
 go_loopw [1, 5] (fun t i wr => ∃ j : Nat, j ≤ n ∧ i = .int .i64 j ∧ t = .int .i64 (k + j) ∧ BOwn wr a g off n (fun i => if i < j then (k + i) % 256 else f i) ∧ Touch g w wr) (fun _ i _ => n - (intOf i).toNat)
 case atStart => exact ⟨0, Nat.zero_le _, rfl, by go_num, hs.congr (fun i _ => by simp), Touch.refl _ _⟩
 case round =>
  obtain ⟨j, hj, rfl, rfl, hO, hT⟩ := hrel
  by_cases hlt : j < n
  ·obtain rfl := hs.at' (by omega)
   have hc := hO.cell j hlt
   have hf := hO.free j hlt
   have hjn : (j : Int) < (n : Int) := by omega
   have hO' := (hO.set hlt ((k + j) % 256)).congr (f' := fun i => if i < j + 1 then (k + i) % 256 else f i) (fun i _ => by
    by_cases e : i = j
    ·subst e; simp
    ·by_cases h : i < j
     ·simp [e, h, show i < j + 1 by omega]
     ·simp [e, h, show ¬ i < j + 1 by omega])
   have hT' := hT.set (off + j) (.int .u8 ((k + j) % 256))
   clear hO hT
   go_wp2
   go_roundw
   case rel => exact ⟨j + 1, by omega, by go_num, by go_num, hO', hT'⟩
   case measure => simp [intOf]; omega
  ·obtain rfl : j = n := by omega
   go_wp2
   go_ret
   exact ⟨rfl, hO.congr (fun i hi => by simp [hi]), hT⟩
set_option maxHeartbeats 400000 in
theorem heldByteS_any (a : Option Addr) (g off n cap : Nat) (k : Int) (w : World) (hs : BSeg w a g off n (fun i => (k + i) % 256)) (hn : n ≤ 1048576) (hk0 : 0 ≤ k) (hk1 : k ≤ 1073741824) :
  Calls Tryz.prog 35 #[.slice a n cap, .int .i64 k] w fun e w' => e = .returned (.int .i64 (k + n)) ∧ w' = w := by
 go_enter Tryz.func35, Tryz.ntmps35
 go_wp2
 go_loop [1, 5] (fun t i => ∃ j : Nat, j ≤ n ∧ i = .int .i64 j ∧ t = .int .i64 (k + j)) (fun _ i => n - (intOf i).toNat)
 case atStart => exact ⟨0, Nat.zero_le _, rfl, by go_num⟩
 case round =>
  obtain ⟨j, hj, rfl, rfl⟩ := hrel
  by_cases hlt : j < n
  ·obtain rfl := hs.at' (by omega)
   have hc := hs.cell j hlt
   have hjn : (j : Int) < (n : Int) := by omega
   go_wp2
   go_round
   case rel => exact ⟨j + 1, by omega, by go_num, by go_num⟩
   case measure => simp [intOf]; omega
  ·obtain rfl : j = n := by omega
   go_wp2
   go_ret
   exact ⟨rfl, rfl⟩
structure IOw (B : Nat) (w : World) (a : Option Addr) (S off n : Nat) (x : Nat → It) : Prop extends ISeg w a S off n x where
 fz : ∀ o, off ≤ o → o < off + n * 3 → w.frozen? ⟨S, o, none⟩ = false
 free : ∀ j, j < n → ∀ m, m < (x j).len → w.frozen? ⟨(x j).blk, (x j).off + m, none⟩ = false
 away : ∀ j, j < n → 0 < (x j).len → (x j).blk ≠ S ∧ B ≤ (x j).blk
 apart : ∀ i j, i < n → j < n → i ≠ j → 0 < (x i).len → 0 < (x j).len → (x i).blk ≠ (x j).blk
 rowB : 0 < n → B ≤ S
theorem IOw.own {B : Nat} {w : World} {a : Option Addr} {S off n : Nat} {x : Nat → It} (h : IOw B w a S off n x) {j : Nat} (hj : j < n) : BOwn w (x j).ad (x j).blk (x j).off (x j).len (x j).f := ⟨h.body j hj, h.free j hj⟩
theorem byts_one (f : Nat → Int) (n : Nat) : ∀ u ∈ byts f n, u.oneCell' = true := by
 intro u hu
 obtain ⟨i, -, rfl⟩ := List.mem_map.1 hu
 rfl
theorem byts_congr {f g : Nat → Int} {n : Nat} (h : ∀ i, i < n → f i = g i) : byts f n = byts g n := by
 unfold byts
 refine List.map_congr_left (fun i hi => ?_)
 rw [h i (List.mem_range.1 hi)]
def catF (f : Nat → Int) (n : Nat) (g : Nat → Int) (i : Nat) : Int := if i < n then f i else g (i - n)
theorem byts_append (f : Nat → Int) (n : Nat) (g : Nat → Int) (m : Nat) : byts f n ++ byts g m = byts (catF f n g) (n + m) := by
 induction m with
 | zero => rw [Nat.add_zero, show byts g 0 = [] from rfl, List.append_nil]; exact byts_congr (fun i hi => by rw [catF, if_pos hi])
 | succ m ih =>
  rw [byts_succ, ← List.append_assoc, ih, ← Nat.add_assoc, byts_succ]
  congr 3
  rw [catF, if_neg (by omega)]
  congr 1
  omega
theorem run_append_nothing {P : Program} {w : World} (base : Nat) (t ty e : TypeId) (i : TypeInfo) (size : Nat) (ht : P.underlying t = some (.slice e)) (hi : P.info? e = some i)
  (v : Value) (n c : Nat) (xs : List Value) (hown : w.ownsRow base e size v n xs) :
  (Builtin.append_ #[t, t] ty #[v, .slice none 0 c]).run P w = .ok v w := by
 rcases hown.2 with ⟨rfl, rfl⟩ | ⟨g, cap, cur, rfl, _, _, hnc, _⟩
 ·simp [Builtin.append_, run_underlying ht, sizeOf, typeInfo, hi, Builtin.lenOf, Builtin.firstCells]
 ·simp [Builtin.append_, run_underlying ht, sizeOf, typeInfo, hi, Builtin.lenOf, Builtin.firstCells, hnc, storeCells]
theorem wp_append_bs {o : Oper} {a0 : Act} {K : Act → World → Prop} {Q : Exit → Act → World → Prop} {w : World} (s x : Operand)
  (ho : o.op = .call { callee := .builtin .append, args := #[s, x], argTypes := #[22, 22] })
  (base : Nat) (v : Value) (n : Nat) (xs : List Value) (hs : a0.eval s = v) (hown : w.ownsRow base 5 1 v n xs)
  (a : Option Addr) (b off m c : Nat) (f : Nat → Int) (hx : a0.eval x = .slice a m c) (hB : BSeg w a b off m f) (hlen : n + m ≤ 1099511627776) (hbase : base ≤ w.heap.size)
  (h : ∀ v' w', w'.ownsRow base 5 1 v' (n + m) (xs ++ byts f m) → Below base w w' → K (a0.put o.dst v') w') : o.wp Tryz.prog a0 w K Q := by
 obtain ⟨i0, hi, hz0, hz1, hz2⟩ := info_parts Tryz.info5
 have hml : n + m ≤ maxLen := by unfold maxLen; omega
 cases a with
 | none =>
  have hm : m = 0 := by
   cases m with
   | zero => rfl
   | succ m => have := hB.at' (Nat.succ_pos _); cases this
  subst hm
  have hr := run_append_nothing (P := Tryz.prog) base 22 o.type 5 i0 1 Tryz.underlying22 hi v n c xs hown
  unfold Oper.wp
  simp [execOp, ho, resolve, invoke, builtin, hs, hx, hr, Result.andThen]
  exact h v w (by rw [show byts f 0 = [] from rfl, List.append_nil]; exact hown) (Below.refl _ _)
 | some ad =>
  refine wp_append_own w s x 22 ho base 5 i0 (.int .u8 0) 1 1 Tryz.underlying22 hi hz0 hz1 hz2 rfl (by decide) v n xs hs hown ad m c (byts f m) hx (by rw [byts_length, Nat.mul_one]) ?_ (byts_one f m) hml (by omega) hbase ?_
  ·intro j u hj
   have hjm : j < m := by have := (List.getElem?_eq_some_iff.1 hj).1; rwa [byts_length] at this
   have := hB.at' (by omega)
   obtain rfl := Option.some.inj this
   rw [show (byts f m)[j]? = some (.int .u8 (f j)) by simp [byts, hjm]] at hj
   obtain rfl := Option.some.inj hj
   have e : Addr.add ⟨b, off, none⟩ j = ⟨b, off + j, none⟩ := by
    by_cases h0 : j = 0
    ·subst h0; simp [Addr.add]
    ·simp [Addr.add, h0]
   rw [e]
   exact hB.cell j hjm
  ·intro v' w' h1 h2 h3
   exact h v' w' h1 ((Below.refl base w).grown h2 hbase (fun k hk => (hown.lt k hk).1))
theorem wpList_append_bs {ops : Array Oper} {rest : List Oper} {o : Oper} {a0 : Act} {Q : Exit → Act → World → Prop} {w : World} (hgd : o.guard = none) (s x : Operand)
  (ho : o.op = .call { callee := .builtin .append, args := #[s, x], argTypes := #[22, 22] })
  (base : Nat) (v : Value) (n : Nat) (xs : List Value) (hs : a0.eval s = v) (hown : w.ownsRow base 5 1 v n xs)
  (a : Option Addr) (b off m c : Nat) (f : Nat → Int) (hx : a0.eval x = .slice a m c) (hB : BSeg w a b off m f) (hlen : n + m ≤ 1099511627776) (hbase : base ≤ w.heap.size)
  (h : ∀ v' w', w'.ownsRow base 5 1 v' (n + m) (xs ++ byts f m) → Below base w w' → wpList Tryz.prog ops Q rest (a0.put o.dst v') w') : wpList Tryz.prog ops Q (o :: rest) a0 w :=
 wpList_plain hgd fun K hK => wp_append_bs s x ho base v n xs hs hown a b off m c f hx hB hlen hbase fun v' w' h1 h2 => hK _ _ (h v' w' h1 h2)
def GivesR (w : World) (n : Nat) (f : Nat → Int) (e : Ending) (w' : World) : Prop :=
 ∃ v, e = .returned v ∧ w'.ownsRow w.heap.size 5 1 v n (byts f n) ∧ Ext w w'
theorem owns_congr {w : World} {base : Nat} {v : Value} {n : Nat} {f g : Nat → Int} (h : w.ownsRow base 5 1 v n (byts f n)) (e : ∀ i, i < n → f i = g i) : w.ownsRow base 5 1 v n (byts g n) := by
 rwa [byts_congr e] at h
theorem owns_mono {w : World} {b b' : Nat} {v : Value} {n : Nat} {xs : List Value} (h : w.ownsRow b 5 1 v n xs) (hb : b' ≤ b) : w.ownsRow b' 5 1 v n xs := by
 refine ⟨h.1, ?_⟩
 rcases h.2 with h | ⟨g, cap, cur, hv, hg, hr⟩
 ·exact .inl h
 ·exact .inr ⟨g, cap, cur, hv, Nat.le_trans hb hg, hr⟩
theorem owns_ext' {w w' : World} {b : Nat} {v : Value} {n : Nat} {xs : List Value} (h : w.ownsRow b 5 1 v n xs) (he : Ext w w') : w'.ownsRow b 5 1 v n xs := by
 refine ⟨h.1, ?_⟩
 rcases h.2 with h | ⟨g, cap, cur, hv, hg, hr, hr'⟩
 ·exact .inl h
 ·refine .inr ⟨g, cap, cur, hv, hg, ?_, hr'⟩
  have hlt : g < w.heap.size := by
   have := (Array.getElem?_eq_some_iff.1 hr).1
   exact this
  rw [Below.block he g hlt]; exact hr
theorem owns_seg {w : World} {base : Nat} {v : Value} {n : Nat} {f : Nat → Int} (h : w.ownsRow base 5 1 v n (byts f n)) : ∃ a g cap, v = .slice a n cap ∧ base ≤ g ∧ n ≤ cap ∧ cap ≤ 9223372036854775807 ∧ BOwn w a g 0 n f := by
 have h' := h
 rcases h.2 with ⟨rfl, rfl⟩ | ⟨g, cap, cur, rfl, hg, hb, hn, hm, hs, ht⟩
 ·exact ⟨none, base, 0, rfl, Nat.le_refl _, Nat.le_refl _, by omega, BOwn.nil _ _ _ _ _⟩
 ·obtain ⟨a, g', cap', hv', hg', hO⟩ := bown_of_owns h'
  simp only [Value.slice.injEq] at hv'
  obtain ⟨rfl, -, rfl⟩ := hv'
  refine ⟨_, g', cap, rfl, hg', hn, by unfold maxLen at hm; omega, hO⟩
set_option maxHeartbeats 800000 in
set_option maxRecDepth 100000 in
theorem clone_any (a : Option Addr) (b off n cap : Nat) (f : Nat → Int) (w : World) (hB : BSeg w a b off n f) (hn : n ≤ 1099511627776) : Calls Tryz.prog 78 #[.slice a n cap] w fun e w' => GivesR w n f e w' := by
 cases a with
 | none =>
  have hm : n = 0 := by
   cases n with
   | zero => rfl
   | succ m => have := hB.at' (Nat.succ_pos _); cases this
  subst hm
  have hq : ∀ w : World, (binOp .eql 22 (.slice none 0 cap) (.slice none 0 0)).run Tryz.prog w = .ok (.bool true) w := fun w => by kernel_rfl
  go_enter Tryz.func78, Tryz.ntmps78
  go_wp2
  go_ret
  exact ⟨_, rfl, World.ownsRow_nil _ _ _ _, Ext.refl _⟩
 | some ad =>
  have hown := World.ownsRow_made (base := w.heap.size) (e := 5) (size := 1) w #[] 0 (Nat.le_refl _) (by simp) rfl
  have hB1 := hB.of_all (Ext.alloc w (.cells #[] 5))
  have Hb := hide hB1
  have Ho := hide hown
  clear hB hB1 hown
  have hq : ∀ w : World, (binOp .eql 22 (.slice (some ad) n cap) (.slice none 0 0)).run Tryz.prog w = .ok (.bool false) w := fun w => by kernel_rfl
  go_enter Tryz.func78, Tryz.ntmps78
  go_wp2_with (at_builtin; refine wpList_append_bs rfl _ _ rfl w.heap.size _ 0 [] rfl Ho.out _ b off n cap f rfl Hb.out (by omega) (by simp) ?_)
  intro v' w1 h1 h2
  have HO := hide h1
  clear h1 Ho Hb
  have HE : Hid (Ext w w1) := hide (((Below.refl _ _).alloc (Nat.le_refl _) _).trans h2)
  clear h2
  go_wp2
  go_ret
  exact ⟨_, rfl, HO.out, HE.out⟩
def itW (t : It) : List Value := [.int .i64 t.tag, .slice t.ad t.len t.cap, .int .i64 t.kid]
def itsW (y : Nat → It) : Nat → List Value
 | 0 => []
 | m + 1 => itsW y m ++ itW (y m)
theorem itW_len (t : It) : (itW t).length = 3 := rfl
theorem itsW_len (y : Nat → It) : ∀ m, (itsW y m).length = m * 3
 | 0 => rfl
 | m + 1 => by rw [itsW, List.length_append, itsW_len y m, itW_len]; omega
theorem itsW_at (y : Nat → It) : ∀ m i r, i < m → r < 3 → (itsW y m)[i * 3 + r]? = (itW (y i))[r]?
 | 0, i, r, h, _ => absurd h (Nat.not_lt_zero _)
 | m + 1, i, r, h, hr => by
  rw [itsW]
  by_cases c : i < m
  ·rw [List.getElem?_append_left (by rw [itsW_len]; omega)]
   exact itsW_at y m i r c hr
  ·obtain rfl : i = m := by omega
   rw [List.getElem?_append_right (by rw [itsW_len]; omega), itsW_len]
   congr 1
   omega
theorem itW_one (t : It) : ∀ u ∈ itW t, u.oneCell' = true := by
 intro u hu
 simp only [itW, List.mem_cons, List.not_mem_nil, or_false] at hu
 rcases hu with rfl | rfl | rfl <;> rfl
theorem ownsRow_ext {W W' : World} {B e s n : Nat} {v : Value} {xs : List Value} (h : W.ownsRow B e s v n xs) (x : Ext W W') : W'.ownsRow B e s v n xs := by
 refine ⟨h.1, ?_⟩
 rcases h.2 with h0 | ⟨g, cap, cur, rfl, hb, hg, rest⟩
 ·exact .inl h0
 ·refine .inr ⟨g, cap, cur, rfl, hb, ?_, rest⟩
  have hl : g < W.heap.size := by
   by_cases c : g < W.heap.size
   ·exact c
   ·rw [Array.getElem?_eq_none (by omega)] at hg; exact absurd hg (by simp)
  exact (Below.block x g hl).trans hg
structure IAcc (B : Nat) (W : World) (v : Value) (m : Nat) (y : Nat → It) : Prop where
 row : W.ownsRow B 40 3 v m (itsW y m)
 body : ∀ i, i < m → BOwn W (y i).ad (y i).blk (y i).off (y i).len (y i).f
 away : ∀ i, i < m → 0 < (y i).len → v.ownBlock ≠ some (y i).blk ∧ B ≤ (y i).blk
 apart : ∀ i j, i < m → j < m → i ≠ j → 0 < (y i).len → 0 < (y j).len → (y i).blk ≠ (y j).blk
theorem IAcc.iow {B : Nat} {W : World} {v : Value} {m : Nat} {y : Nat → It} (h : IAcc B W v m y) (hs : ∀ i, i < m → (y i).len ≤ 9223372036854775807) : ∃ a S cap, v = .slice a m cap ∧ IOw B W a S 0 m y := by
 have hr := h.row
 rcases h.row.2 with ⟨rfl, rfl⟩ | ⟨g, cap, cur, rfl, hb, hg, hn, hm, hz, ht⟩
 ·exact ⟨none, B, 0, rfl, ⟨⟨fun h => absurd h (by omega), fun i hi => absurd hi (by omega), fun i hi => absurd hi (by omega), fun i hi => absurd hi (by omega), fun i hi => absurd hi (by omega), fun i hi => absurd hi (by omega)⟩, fun o h1 h2 => absurd h2 (by omega), fun i hi => absurd hi (by omega), fun i hi => absurd hi (by omega), fun i j hi => absurd hi (by omega), fun _ => Nat.le_refl _⟩⟩
 ·have hc : ∀ i r, i < m → r < 3 → W.cell? ⟨g, 0 + i * 3 + r, none⟩ = (itW (y i))[r]? := fun i r hi hr3 => by
   rw [World.ownsRow.cellAt hr (0 + i * 3 + r) (by omega), ← itsW_at y m i r hi hr3]
   congr 1
   omega
  exact ⟨_, g, cap, rfl, ⟨⟨fun _ => rfl, fun i hi => hc i 0 hi (by omega), fun i hi => hc i 1 hi (by omega), fun i hi => hc i 2 hi (by omega), fun i hi => (h.body i hi).toBSeg, hs⟩, fun o _ _ => World.ownsRow.frozenAt hr o, fun i hi => (h.body i hi).free, fun i hi h0 => ⟨fun e => (h.away i hi h0).1 (by rw [e]; rfl), (h.away i hi h0).2⟩, h.apart, fun _ => hb⟩⟩
end
end Go.Proofs.YtkogbinfhoiggaaGreatDoor
