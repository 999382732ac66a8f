/- Walks: the program's TreeOk. -/
import Derived.Test.YtboaiojapgiedaaBlw
import Derived.Test.YtboaiojapgiedaaTrI
namespace Go.Proofs.Ytboaiojapgiedaa
set_option linter.unusedVariables false
set_option linter.unusedSimpArgs false
open Go.RowKit Go.Shelf
attribute [local go_sem] Oper.semAt_some

theorem rd_ext {X : Nat → Prop} {B : Nat} {W W' : World} (h : Ext W W') : Rd X B W W' := ⟨h.os, h.tape, h.output, h.size, fun k _ hk => h.block k hk⟩
theorem rd_set {X : Nat → Prop} {B : Nat} {W W' : World} (h : Rd X B W W') {k o : Nat} (hk : k < B) (hx : ¬ X k) (v : Value) : Rd X B W (W'.setCell ⟨k, o, none⟩ v) :=
  h.trans ⟨rfl, rfl, rfl, by simp [World.setCell], fun j hj _ => Below.heap_setCell _ _ _ _ (by rintro rfl; rcases hj with hj | hj; exact absurd hj (by simp; omega); exact hx hj)⟩
theorem cell_set_other {W : World} {k k' o o' : Nat} (v : Value) (h : k ≠ k') : (W.setCell ⟨k, o, none⟩ v).cell? ⟨k', o', none⟩ = W.cell? ⟨k', o', none⟩ :=
  World.cell?_setCell_other _ _ _ _ (fun e => h (by have := congrArg Addr.block e; simp at this; omega))

theorem load_bool {W : World} {q : Addr} {v : Value} (h : W.cell? q = some v) : (loadVar 4 q).run Try.prog W = .ok v W := by
  have ha : (isAgg 4).run Try.prog W = .ok false W := by kernel_rfl
  simp [loadVar, Sem.run_bind, ha, load, h, Result.andThen, Sem.run]

theorem results_one {P : Program} {fn : Func} {a : Nat} {T : TypeId} (hf : fn.results = #[.cell a T]) {tmps : Array Value} {q : Addr} {v : Value} {W : World} (ht : tmps.getD a undef = .pointer (some q)) (hl : (loadVar T q).run P W = .ok v W) : (results fn tmps).run P W = .ok v W := by
  unfold results
  rw [hf]
  rw [Array.getD_eq_getD_getElem?] at ht
  simp [ht, asAddr, hl, Sem.run_bind, Sem.run_pure, Result.andThen_ok]

/-- What TreeOk's own cells hold between two rounds. -/
structure TrI0 (w : World) (v : Int) (a : Option Addr) (n cap : Nat) (W : World) : Prop where
  c2 : W.cell? ⟨w.heap.size + 1 + 1, 0, none⟩ = some (.int .i64 v)
  f2 : W.frozen? ⟨w.heap.size + 1 + 1, 0, none⟩ = false
  c1 : W.cell? ⟨w.heap.size + 1, 0, none⟩ = some (.bool false)
  f1 : W.frozen? ⟨w.heap.size + 1, 0, none⟩ = false
  c0 : W.cell? ⟨w.heap.size, 0, none⟩ = some (.slice a n cap)
  ext : Ext w W

theorem TrI0.low {w : World} {v : Int} {a : Option Addr} {n cap B : Nat} (hB : w.heap.size + 5 ≤ B) {W W' : World} (h : TrI0 w v a n cap W) (k : Below B W W') : TrI0 w v a n cap W' :=
  ⟨(k.cell (p := ⟨w.heap.size + 1 + 1, 0, none⟩) (by simp; omega)).trans h.c2, (k.frozen (p := ⟨w.heap.size + 1 + 1, 0, none⟩) (by simp; omega)).trans h.f2,
   (k.cell (p := ⟨w.heap.size + 1, 0, none⟩) (by simp; omega)).trans h.c1, (k.frozen (p := ⟨w.heap.size + 1, 0, none⟩) (by simp; omega)).trans h.f1,
   (k.cell (p := ⟨w.heap.size, 0, none⟩) (by simp; omega)).trans h.c0, Below.trans h.ext (k.mono (by omega))⟩

theorem TrI0.set1 {w : World} {v : Int} {a : Option Addr} {n cap : Nat} {W : World} (h : TrI0 w v a n cap W) : TrI0 w v a n cap (W.setCell ⟨w.heap.size + 1, 0, none⟩ (.bool false)) :=
  ⟨by rw [cell_set_other _ (by omega)]; exact h.c2, by rw [World.frozen?_setCell]; exact h.f2, World.cell?_setCell_same _ _ _ h.c1, by rw [World.frozen?_setCell]; exact h.f1, by rw [cell_set_other _ (by omega)]; exact h.c0, below_touch h.ext ((Touch.refl (w.heap.size + 1) W).set 0 _) (by omega)⟩
theorem TrI0.set2 {w : World} {v : Int} {a : Option Addr} {n cap : Nat} {W : World} (h : TrI0 w v a n cap W) (v' : Int) : TrI0 w v' a n cap (W.setCell ⟨w.heap.size + 1 + 1, 0, none⟩ (.int .i64 v')) :=
  ⟨World.cell?_setCell_same _ _ _ h.c2, by rw [World.frozen?_setCell]; exact h.f2, by rw [cell_set_other _ (by omega)]; exact h.c1, by rw [World.frozen?_setCell]; exact h.f1, by rw [cell_set_other _ (by omega)]; exact h.c0, below_touch h.ext ((Touch.refl (w.heap.size + 1 + 1) W).set 0 _) (by omega)⟩

set_option maxHeartbeats 6400000 in
set_option maxRecDepth 100000 in
theorem implTree_any (a : Option Addr) (b off n cap : Nat) (x : Nat → It) (w : World) (hs : ISeg w a b off n x) (hn : n ≤ 1048576) (hk : ∀ i, i < n → (x i).kid ≤ 9223372036854775807) :
    Calls Try.prog 60 #[.slice a n cap] w fun e w' => e = .returned (.bool (treeV x n)) ∧ Ext w w' := by
  by_cases h1 : 1 ≤ n
  · have g1 : ¬ (n : Int) < 1 := by omega
    by_cases h300 : n ≤ 300
    · have g2 : ¬ (300 : Int) < (n : Int) := by omega
      obtain rfl := hs.at' (by omega)
      have ltb : b < w.heap.size := hs.lt (by omega)
      refine (callsIn_wide (n := 9)).1 ?_
      refine callsIn_of_wp_marks Try.func60 rfl trivial ?_
      simp only [Try.ntmps60, List.size_toArray, List.length_cons, List.length_nil, Nat.reduceAdd, Nat.reduceSub, Array.replicate_succ, Array.replicate_zero, List.push_toArray, List.append_toArray, List.nil_append, List.cons_append]
      gi_wp2_with (first | (gi_at_call 30; refine (callsIn_wide.2 (below_any _ _ _ _ _)).mono ?_; rintro e w1 ⟨rfl, rfl⟩) | (refine ⟨trivial, ?_⟩; gi_at_call 30; refine (callsIn_wide.2 (below_any _ _ _ _ _)).mono ?_; rintro e w1 ⟨rfl, rfl⟩))
      obtain ⟨V, hV⟩ : ∃ V, (((((w.alloc (.cells #[.slice (some ⟨b, off, none⟩) n cap] 24)).alloc (.cells #[.bool false] 4)).alloc (.cells #[.int .i64 ((n : Int) - 1)] 3)).alloc (.cells #[.slice (some ⟨b, off, none⟩) n cap] 24)).alloc (.cells #[.int .i64 0] 3)) = V := ⟨_, rfl⟩
      obtain ⟨B0, B1, B2, B3, B4, hE, hsz⟩ := box5 w [.slice (some ⟨b, off, none⟩) n cap] [.bool false] [.int .i64 ((n : Int) - 1)] [.slice (some ⟨b, off, none⟩) n cap] [.int .i64 0] 24 4 3 24 3 (w1 := V) (by rw [← hV]; exact Ext.refl _)
      have sV : V.heap.size = w.heap.size + 5 := by rw [← hV]; simp
      rw [hV]
      have hsV := hs.of_all hE
      have hseq := below1_in 8 (by omega) n 0 (w.heap.size + 1 + 1 + 1 + 1) (w.heap.size + 1 + 1 + 1) b off cap (fun i => (x i).kid) V (Nat.zero_le _) hn (by omega) (B4 0 _ rfl).1 (B3 0 _ rfl).1 (fun i hi => hsV.c2 i hi) hk
      have Hs := hide hs
      have HsV := hide hsV
      have hVs : w.heap.size + 5 ≤ V.heap.size := by omega
      have I0 : TrI0 w ((n : Int) - 1) (some ⟨b, off, none⟩) n cap V := ⟨(B2 0 _ rfl).1, (B2 0 _ rfl).2, (B1 0 _ rfl).1, (B1 0 _ rfl).2, (B0 0 _ rfl).1, hE⟩
      clear hs hsV B0 B1 B2 B3 B4
      refine range_own (n := 9) (by omega) (gf := 61) (lb := #[.pointer (some ⟨w.heap.size + 1 + 1 + 1 + 1, 0, none⟩), .pointer (some ⟨w.heap.size + 1 + 1 + 1, 0, none⟩)]) rfl (enters_of Try.func61 (by kernel_rfl) rfl) (w0 := V) (fun k hk => by rcases hk with h | h | h <;> omega) hseq (Below.refl _ _) (fun _ => rfl)
        (fun pre W => ∃ v, chk x (pre.map (·.1)) ((n : Int) - 1) = some v ∧ TrI0 w v (some ⟨b, off, none⟩) n cap W)
        (fun c pre W => c = .ret ∧ chk x (pre.map (·.1)) ((n : Int) - 1) = none ∧ ∃ v, TrI0 w v (some ⟨b, off, none⟩) n cap W)
        (fun s A C ⟨v, h1, h2⟩ k => ⟨v, h1, h2.low hVs k⟩) (fun c s A C ⟨h0, h1, v, h2⟩ k => ⟨h0, h1, v, h2.low hVs k⟩) ⟨_, rfl, I0⟩
        (fun p => { tmps := #[.slice (some ⟨b, off, none⟩) n cap, .pointer (some ⟨w.heap.size, 0, none⟩), .pointer (some ⟨w.heap.size + 1, 0, none⟩), .pointer (some ⟨w.heap.size + 1 + 1, 0, none⟩), .int .i64 (p.1.1 : Int), .int .i64 (p.1.2 : Int), undef, .slice (some ⟨b, off, none⟩) n cap, .int .i64 (n : Int), .bool false, .bool false, .slice (some ⟨b, off, none⟩) n cap, .int .i64 (n : Int), .bool false, .bool false, .slice (some ⟨b, off, none⟩) n cap, .int .i64 (n : Int), .int .i64 ((n : Int) - 1), .slice (some ⟨b, off, none⟩) n cap, .func (.func 61) #[] #[.pointer (some ⟨w.heap.size + 1 + 1 + 1 + 1, 0, none⟩), .pointer (some ⟨w.heap.size + 1 + 1 + 1, 0, none⟩)], .int .i64 (p.1.1 : Int), .int .i64 (p.1.2 : Int), undef, undef, undef, undef, undef, undef, undef, undef, undef, undef, undef, undef, undef, undef, undef, undef, undef, undef, undef, undef, undef, undef, undef], defers := [] }) ?assign ?body ?done ?stop
      case assign =>
        intro l p W K hK
        simp only [encP]
        gi_wp2
        exact hK
      case body =>
        rintro l pre ⟨⟨i, r⟩, hi⟩ W ⟨v, hc, hI⟩ hW2 hlen
        have hWs : w.heap.size + 5 ≤ W.heap.size := by omega
        have hsW := Hs.out.of_all hI.ext
        have a0 := hsW.c0 i hi
        have a1 := hsW.c1 i hi
        have a2 := hsW.c2 i hi
        have hin : (i : Int) < (n : Int) := by omega
        have hv := chk_range x _ _ _ (by omega) hc
        have HIt : Hid (∀ w, Calls Try.prog 72 #[.agg #[.int .i64 (x i).tag, .slice (x i).ad (x i).len (x i).cap, .int .i64 (x i).kid]] w fun e w' => e = .returned (.bool (decide (itP (x i)))) ∧ Ext w w') := fun w => itemOk_any (x i) w (hsW.small i hi)
        have kn : (W.alloc (.cells #[.int .i64 (x i).tag, .slice (x i).ad (x i).len (x i).cap, .int .i64 (x i).kid] 49)).cell? ⟨W.heap.size, 2, none⟩ = some (.int .i64 (x i).kid) := (Blk.alloc W [.int .i64 (x i).tag, .slice (x i).ad (x i).len (x i).cap, .int .i64 (x i).kid] 49 2 _ rfl).1
        have d0 := hI.c0
        clear hsW hseq I0 HsV Hs
        by_cases q1 : itP (x i)
        · rw [decide_eq_true q1] at HIt
          have hkid := itP_kid q1
          by_cases q2 : r ≤ 12
          · by_cases q3 : (x i).kid ≤ v
            · have HN : Hid (chk x ((pre ++ [(⟨(i, r), hi⟩ : Pl n)]).map (·.1)) ((n : Int) - 1) = some (v - (x i).kid)) := by
                show _ = _
                rw [List.map_append, List.map_singleton, chk_one x _ _ _ v hc, if_pos ⟨q1, q2, q3⟩]
              have e1 : ¬ (12 : Int) < (r : Int) := by omega
              have e2 : ¬ v < (x i).kid := by omega
              have e3 : wrap64 (v - (x i).kid) = v - (x i).kid := by unfold wrap64; omega
              gi_wp2_with (first | (gi_at_call 72; refine (CallsIn.inRound l (callsIn_wide.2 (HIt.out _))).mono ?_; rintro e W3 ⟨rfl, hE3⟩; have HE3 := hide (Ext.trans (Ext.alloc W _) hE3); have k2 := (Below.cell hE3 (p := ⟨W.heap.size, 2, none⟩) (by simp)).trans kn; have J3 := hI.low hWs HE3.out; obtain ⟨c2, f2, c1, f1, c0, ex⟩ := J3; clear hE3) | (refine ⟨trivial, ?_⟩; gi_at_call 72; refine (CallsIn.inRound l (callsIn_wide.2 (HIt.out _))).mono ?_; rintro e W3 ⟨rfl, hE3⟩; have HE3 := hide (Ext.trans (Ext.alloc W _) hE3); have k2 := (Below.cell hE3 (p := ⟨W.heap.size, 2, none⟩) (by simp)).trans kn; have J3 := hI.low hWs HE3.out; obtain ⟨c2, f2, c1, f1, c0, ex⟩ := J3; clear hE3))
              exact ⟨rd_set (rd_ext HE3.out) (by omega) (by rintro (h | h | h) <;> omega) _, _, HN.out, (TrI0.mk c2 f2 c1 f1 c0 ex).set2 _⟩
            · have hok : ¬ okAt x v (i, r) := fun h => q3 h.2.2
              have e1 : ¬ (12 : Int) < (r : Int) := by omega
              have e2 : v < (x i).kid := by omega
              have HN : Hid (chk x ((pre ++ [(⟨(i, r), hi⟩ : Pl n)]).map (·.1)) ((n : Int) - 1) = none) := by
                show _ = _
                rw [List.map_append, List.map_singleton, chk_one x _ _ _ v hc, if_neg hok]
              gi_wp2_with (first | (gi_at_call 72; refine (CallsIn.inRound l (callsIn_wide.2 (HIt.out _))).mono ?_; rintro e W3 ⟨rfl, hE3⟩; have HE3 := hide (Ext.trans (Ext.alloc W _) hE3); have k2 := (Below.cell hE3 (p := ⟨W.heap.size, 2, none⟩) (by simp)).trans kn; have J3 := hI.low hWs HE3.out; obtain ⟨c2, f2, c1, f1, c0, ex⟩ := J3; clear hE3) | (refine ⟨trivial, ?_⟩; gi_at_call 72; refine (CallsIn.inRound l (callsIn_wide.2 (HIt.out _))).mono ?_; rintro e W3 ⟨rfl, hE3⟩; have HE3 := hide (Ext.trans (Ext.alloc W _) hE3); have k2 := (Below.cell hE3 (p := ⟨W.heap.size, 2, none⟩) (by simp)).trans kn; have J3 := hI.low hWs HE3.out; obtain ⟨c2, f2, c1, f1, c0, ex⟩ := J3; clear hE3))
              exact ⟨rd_set (rd_ext HE3.out) (by omega) (by rintro (h | h | h) <;> omega) _, rfl, HN.out, _, (TrI0.mk c2 f2 c1 f1 c0 ex).set1⟩
          · have hok : ¬ okAt x v (i, r) := fun h => q2 h.2.1
            have e1 : (12 : Int) < (r : Int) := by omega
            have HN : Hid (chk x ((pre ++ [(⟨(i, r), hi⟩ : Pl n)]).map (·.1)) ((n : Int) - 1) = none) := by
              show _ = _
              rw [List.map_append, List.map_singleton, chk_one x _ _ _ v hc, if_neg hok]
            gi_wp2_with (first | (gi_at_call 72; refine (CallsIn.inRound l (callsIn_wide.2 (HIt.out _))).mono ?_; rintro e W3 ⟨rfl, hE3⟩; have HE3 := hide (Ext.trans (Ext.alloc W _) hE3); have k2 := (Below.cell hE3 (p := ⟨W.heap.size, 2, none⟩) (by simp)).trans kn; have J3 := hI.low hWs HE3.out; obtain ⟨c2, f2, c1, f1, c0, ex⟩ := J3; clear hE3) | (refine ⟨trivial, ?_⟩; gi_at_call 72; refine (CallsIn.inRound l (callsIn_wide.2 (HIt.out _))).mono ?_; rintro e W3 ⟨rfl, hE3⟩; have HE3 := hide (Ext.trans (Ext.alloc W _) hE3); have k2 := (Below.cell hE3 (p := ⟨W.heap.size, 2, none⟩) (by simp)).trans kn; have J3 := hI.low hWs HE3.out; obtain ⟨c2, f2, c1, f1, c0, ex⟩ := J3; clear hE3))
            exact ⟨rd_set (rd_ext HE3.out) (by omega) (by rintro (h | h | h) <;> omega) _, rfl, HN.out, _, (TrI0.mk c2 f2 c1 f1 c0 ex).set1⟩
        · have hok : ¬ okAt x v (i, r) := fun h => q1 h.1
          rw [decide_eq_false q1] at HIt
          have HN : Hid (chk x ((pre ++ [(⟨(i, r), hi⟩ : Pl n)]).map (·.1)) ((n : Int) - 1) = none) := by
            show _ = _
            rw [List.map_append, List.map_singleton, chk_one x _ _ _ v hc, if_neg hok]
          gi_wp2_with (first | (gi_at_call 72; refine (CallsIn.inRound l (callsIn_wide.2 (HIt.out _))).mono ?_; rintro e W3 ⟨rfl, hE3⟩; have HE3 := hide (Ext.trans (Ext.alloc W _) hE3); have k2 := (Below.cell hE3 (p := ⟨W.heap.size, 2, none⟩) (by simp)).trans kn; have J3 := hI.low hWs HE3.out; obtain ⟨c2, f2, c1, f1, c0, ex⟩ := J3; clear hE3) | (refine ⟨trivial, ?_⟩; gi_at_call 72; refine (CallsIn.inRound l (callsIn_wide.2 (HIt.out _))).mono ?_; rintro e W3 ⟨rfl, hE3⟩; have HE3 := hide (Ext.trans (Ext.alloc W _) hE3); have k2 := (Below.cell hE3 (p := ⟨W.heap.size, 2, none⟩) (by simp)).trans kn; have J3 := hI.low hWs HE3.out; obtain ⟨c2, f2, c1, f1, c0, ex⟩ := J3; clear hE3))
          exact ⟨rd_set (rd_ext HE3.out) (by omega) (by rintro (h | h | h) <;> omega) _, rfl, HN.out, _, (TrI0.mk c2 f2 c1 f1 c0 ex).set1⟩
      case done =>
        rintro xs W hS ⟨v, hc, hI⟩ hlt hD
        have HV : Hid ((v == 0) = treeV x n) := by
          show _ = _
          rw [← runP_treeV x n h1 h300, runP_chk]
          rw [Nat.sub_zero] at hS
          rw [← hS, hc]
          rfl
        have HE := hide hI.ext
        obtain ⟨c2, f2, c1, f1, c0, ex⟩ := hI
        gi_wp2
        rw [sV] at hD hlt
        refine ⟨by simp, .inl ⟨_, _, rfl, run_takeDeferred (ds := []) ((Below.heap_setCell _ _ _ _ (by first | (simp; done) | (simp; omega))).trans hD), ?_⟩⟩
        refine ⟨.bool (v == 0), results_one Try.results60 rfl (load_bool ?_), ret_bool HV.out, ?_⟩
        · refine (Below.cell (putObj_below (w.heap.size + 5) _ (w.heap.size + 5) _ (Nat.le_refl _)) (p := ⟨w.heap.size + 1, 0, none⟩) (by first | (simp; done) | (simp; omega))).trans ?_
          exact World.cell?_setCell_same _ _ _ c1
        · exact Below.trans (below_touch HE.out ((Touch.refl (w.heap.size + 1) W).set 0 _) (by omega)) ((putObj_below (w.heap.size + 5) _ (w.heap.size + 5) _ (Nat.le_refl _)).mono (by omega))
      case stop =>
        rintro c pre W hSp ⟨rfl, hc, v, hI⟩ hlt hD
        have HV : Hid (false = treeV x n) := by
          show _ = _
          rw [← runP_treeV x n h1 h300, runP_chk]
          rw [Nat.sub_zero] at hSp
          rw [chk_prefix x _ _ _ hSp hc]
        have HE := hide hI.ext
        have c1 := hI.c1
        gi_wp2
        rw [sV] at hD hlt
        refine ⟨by simp, .inl ⟨_, _, rfl, run_takeDeferred (ds := []) hD, ?_⟩⟩
        refine ⟨.bool false, results_one Try.results60 rfl (load_bool ?_), ret_bool HV.out, ?_⟩
        · exact (Below.cell (putObj_below (w.heap.size + 5) _ (w.heap.size + 5) _ (Nat.le_refl _)) (p := ⟨w.heap.size + 1, 0, none⟩) (by first | (simp; done) | (simp; omega))).trans c1
        · exact Below.trans HE.out ((putObj_below (w.heap.size + 5) _ (w.heap.size + 5) _ (Nat.le_refl _)).mono (by omega))
    · have g2 : (300 : Int) < (n : Int) := by omega
      go_enter Try.func60, Try.ntmps60
      go_wp2
      have B1 := box2 w [.slice a n cap] [.bool false] 24 4 (Ext.refl _)
      exact bodyPost_ret (results_one Try.results60 rfl (load_bool (B1.2.1 0 _ rfl).1)) rfl ⟨ret_bool (by unfold treeV; symm; rw [decide_eq_false_iff_not]; omega), B1.2.2.1⟩
  · have g1 : (n : Int) < 1 := by omega
    go_enter Try.func60, Try.ntmps60
    go_wp2
    have B1 := box2 w [.slice a n cap] [.bool false] 24 4 (Ext.refl _)
    exact bodyPost_ret (results_one Try.results60 rfl (load_bool (B1.2.1 0 _ rfl).1)) rfl ⟨ret_bool (by unfold treeV; symm; rw [decide_eq_false_iff_not]; omega), B1.2.2.1⟩

end Go.Proofs.Ytboaiojapgiedaa
