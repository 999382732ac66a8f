/- Walks: the program's itemOk. Walks: the program's TreeOk. Walks: the law's own helper markItemS over a copied list of items: it turns nothing but the copy. Lists of items that own their memory: the row and all bodies lie apart, at B or behind. The law's own helpers markItemS and heldItemS over them. A list of items in the making by appends: its row, and bodies apart from it and from one another. -/
import Derived.Test.YtmcdikbcmikihaaDoorTq03
import Derived.Test.YtmcdikbcmikihaaDoorRows
import Derived.WalkKit
import Derived.ProofKit
import Derived.OpenShut
import Derived.ChangeOld
import Derived.Below
import Derived.Test.YtmcdikbcmikihaaDoorChecked
import Derived.Test.YtmcdikbcmikihaaDoorTq01
import Derived.Test.YtmcdikbcmikihaaDoorTq02
import Derived.Maps.AppendAt
namespace Go.Proofs.YtmcdikbcmikihaaDoor

section
set_option linter.unusedVariables false
set_option linter.unusedSimpArgs false

open Go.RowKit

theorem and32 {x : Int} (h0 : 0 ≤ x) (h1 : x ≤ 255) : (bits .and .i64 x 32 != 0) = decide (x / 32 % 2 = 1) := by
  have h : ∀ n : Nat, n < 256 → (bits .and .i64 (n : Int) 32 != 0) = decide ((n : Int) / 32 % 2 = 1) := by decide +kernel
  have := h x.toNat (by omega)
  rwa [show ((x.toNat : Nat) : Int) = x by omega] at this

theorem and31 {x : Int} (h0 : 0 ≤ x) (h1 : x ≤ 255) : (bits .and .i64 x 31 != 31) = decide (x % 32 ≠ 31) := by
  have h : ∀ n : Nat, n < 256 → (bits .and .i64 (n : Int) 31 != 31) = decide ((n : Int) % 32 ≠ 31) := by decide +kernel
  have := h x.toNat (by omega)
  rwa [show ((x.toNat : Nat) : Int) = x by omega] at this

theorem isMade_any (t : Int) (w : World) (t0 : 0 ≤ t) (t1 : t ≤ 255) : Calls Tryd.prog 35 #[.int .i64 t] w fun e w' => e = .returned (.bool (decide (t / 32 % 2 = 1))) ∧ w' = w := by
  go_enter Tryd.func35, Tryd.ntmps35
  go_wp2
  go_ret
  exact ⟨ret_bool (and32 t0 t1), rfl⟩

theorem tagOk_any (t : Int) (w : World) (t0 : 0 ≤ t) (t1 : t ≤ 255) : Calls Tryd.prog 56 #[.int .i64 t] w fun e w' => e = .returned (.bool (decide (t % 32 ≠ 31))) ∧ w' = w := by
  go_enter Tryd.func56, Tryd.ntmps56
  go_wp2
  go_ret
  exact ⟨ret_bool (and31 t0 t1), rfl⟩

set_option maxHeartbeats 1600000 in
theorem itemOk_any (x : It) (w : World) (hn : x.len ≤ 9223372036854775807) :
    Calls Tryd.prog 33 #[itV x] w fun e w' => e = .returned (.bool (decide (itP x))) ∧ Ext w w' := by
  obtain ⟨V, hV⟩ : ∃ V, w.alloc (.cells #[.int .i64 x.tag, .slice x.ad x.len x.cap, .int .i64 x.kid] 55) = V := ⟨_, rfl⟩
  obtain ⟨B1, hE, -⟩ := box1 w [.int .i64 x.tag, .slice x.ad x.len x.cap, .int .i64 x.kid] 55 (w1 := V) (by rw [← hV]; exact Ext.refl _)
  have a0 := (B1 0 _ rfl).1
  have a1 := (B1 1 _ rfl).1
  have a2 := (B1 2 _ rfl).1
  have HE := hide hE
  clear B1 hE
  show Calls Tryd.prog 33 #[.agg #[.int .i64 x.tag, .slice x.ad x.len x.cap, .int .i64 x.kid]] w _
  obtain ⟨F, hF⟩ : ∃ F, decide (itP x) = F := ⟨_, rfl⟩
  rw [hF]
  have HF : Hid (F = decide (0 ≤ x.tag ∧ x.tag ≤ 255 ∧ x.tag % 32 ≠ 31 ∧ (x.tag / 32 % 2 = 1 → 0 ≤ x.kid ∧ x.len = 0) ∧ (x.tag / 32 % 2 ≠ 1 → x.kid = 0))) := hide (by rw [← hF]; rfl)
  clear hF
  generalize x.tag = t at *
  generalize x.kid = c at *
  generalize x.len = q at *
  by_cases hA : t < 0
  · go_enter Tryd.func33, Tryd.ntmps33
    go_wp2
    go_ret
    exact ⟨ret_bool (by rw [HF.out]; symm; exact decide_eq_false (by omega)), HE.out⟩
  · by_cases hB : 255 < t
    · go_enter Tryd.func33, Tryd.ntmps33
      go_wp2
      go_ret
      exact ⟨ret_bool (by rw [HF.out]; symm; exact decide_eq_false (by omega)), HE.out⟩
    · have HT := hide (fun W => tagOk_any t W (by omega) (by omega))
      have HM := hide (fun W => isMade_any t W (by omega) (by omega))
      by_cases hC : t % 32 = 31
      · rw [show decide (t % 32 ≠ 31) = false by simp [hC]] at HT
        go_enter Tryd.func33, Tryd.ntmps33
        go_wp2_with fail
        refine (HT.out _).mono ?_
        rintro e w1 ⟨rfl, hw1⟩
        subst hw1
        go_wp2
        go_ret
        exact ⟨ret_bool (by rw [HF.out]; symm; exact decide_eq_false (by omega)), HE.out⟩
      · rw [show decide (t % 32 ≠ 31) = true by simp [hC]] at HT
        by_cases hM : t / 32 % 2 = 1
        · rw [show decide (t / 32 % 2 = 1) = true by simp [hM]] at HM
          by_cases hk : 0 ≤ c
          · go_enter Tryd.func33, Tryd.ntmps33
            go_wp2_with fail
            refine (HT.out _).mono ?_
            rintro e w1 ⟨rfl, hw1⟩
            subst hw1
            go_wp2_with fail
            refine (HM.out _).mono ?_
            rintro e w1 ⟨rfl, hw1⟩
            subst hw1
            go_wp2
            go_ret
            exact ⟨ret_bool (by rw [HF.out, Bool.eq_iff_iff]; simp; omega), HE.out⟩
          · go_enter Tryd.func33, Tryd.ntmps33
            go_wp2_with fail
            refine (HT.out _).mono ?_
            rintro e w1 ⟨rfl, hw1⟩
            subst hw1
            go_wp2_with fail
            refine (HM.out _).mono ?_
            rintro e w1 ⟨rfl, hw1⟩
            subst hw1
            go_wp2
            go_ret
            exact ⟨ret_bool (by rw [HF.out]; symm; exact decide_eq_false (by omega)), HE.out⟩
        · rw [show decide (t / 32 % 2 = 1) = false by simp [hM]] at HM
          go_enter Tryd.func33, Tryd.ntmps33
          go_wp2_with fail
          refine (HT.out _).mono ?_
          rintro e w1 ⟨rfl, hw1⟩
          subst hw1
          go_wp2_with fail
          refine (HM.out _).mono ?_
          rintro e w1 ⟨rfl, hw1⟩
          subst hw1
          go_wp2
          go_ret
          exact ⟨ret_bool (by rw [HF.out, Bool.eq_iff_iff]; simp; omega), HE.out⟩
end

section
set_option linter.unusedVariables false
set_option linter.unusedSimpArgs false

open Go.RowKit Go.Shelf

attribute [local go_sem] Oper.semAt_some

theorem rd_ext {X : Nat → Prop} {B : Nat} {W W' : World} (h : Ext W W') : Rd X B W W' := ⟨h.os, h.tape, h.output, h.size, fun k _ hk => h.block k hk⟩

theorem rd_set {X : Nat → Prop} {B : Nat} {W W' : World} (h : Rd X B W W') {k o : Nat} (hk : k < B) (hx : ¬ X k) (v : Value) : Rd X B W (W'.setCell ⟨k, o, none⟩ v) :=
  h.trans ⟨rfl, rfl, rfl, by simp [World.setCell], fun j hj _ => Below.heap_setCell _ _ _ _ (by rintro rfl; rcases hj with hj | hj; exact absurd hj (by simp; omega); exact hx hj)⟩

theorem cell_set_other {W : World} {k k' o o' : Nat} (v : Value) (h : k ≠ k') : (W.setCell ⟨k, o, none⟩ v).cell? ⟨k', o', none⟩ = W.cell? ⟨k', o', none⟩ :=
  World.cell?_setCell_other _ _ _ _ (fun e => h (by have := congrArg Addr.block e; simp at this; omega))

theorem load_bool {W : World} {q : Addr} {v : Value} (h : W.cell? q = some v) : (loadVar 4 q).run Tryd.prog W = .ok v W := by
  have ha : (isAgg 4).run Tryd.prog W = .ok false W := by kernel_rfl
  simp [loadVar, Sem.run_bind, ha, load, h, Result.andThen, Sem.run]

theorem results_one {P : Program} {fn : Func} {a : Nat} {T : TypeId} (hf : fn.results = #[.cell a T]) {tmps : Array Value} {q : Addr} {v : Value} {W : World} (ht : tmps.getD a undef = .pointer (some q)) (hl : (loadVar T q).run P W = .ok v W) : (results fn tmps).run P W = .ok v W := by
  unfold results
  rw [hf]
  rw [Array.getD_eq_getD_getElem?] at ht
  simp [ht, asAddr, hl, Sem.run_bind, Sem.run_pure, Result.andThen_ok]

/-- What TreeOk's own cells hold between two rounds. -/
structure TrI0 (w : World) (v : Int) (a : Option Addr) (n cap : Nat) (W : World) : Prop where
  c2 : W.cell? ⟨w.heap.size + 1 + 1, 0, none⟩ = some (.int .i64 v)
  f2 : W.frozen? ⟨w.heap.size + 1 + 1, 0, none⟩ = false
  c1 : W.cell? ⟨w.heap.size + 1, 0, none⟩ = some (.bool false)
  f1 : W.frozen? ⟨w.heap.size + 1, 0, none⟩ = false
  c0 : W.cell? ⟨w.heap.size, 0, none⟩ = some (.slice a n cap)
  ext : Ext w W

theorem TrI0.low {w : World} {v : Int} {a : Option Addr} {n cap B : Nat} (hB : w.heap.size + 5 ≤ B) {W W' : World} (h : TrI0 w v a n cap W) (k : Below B W W') : TrI0 w v a n cap W' :=
  ⟨(k.cell (p := ⟨w.heap.size + 1 + 1, 0, none⟩) (by simp; omega)).trans h.c2, (k.frozen (p := ⟨w.heap.size + 1 + 1, 0, none⟩) (by simp; omega)).trans h.f2,
   (k.cell (p := ⟨w.heap.size + 1, 0, none⟩) (by simp; omega)).trans h.c1, (k.frozen (p := ⟨w.heap.size + 1, 0, none⟩) (by simp; omega)).trans h.f1,
   (k.cell (p := ⟨w.heap.size, 0, none⟩) (by simp; omega)).trans h.c0, Below.trans h.ext (k.mono (by omega))⟩

theorem TrI0.set1 {w : World} {v : Int} {a : Option Addr} {n cap : Nat} {W : World} (h : TrI0 w v a n cap W) : TrI0 w v a n cap (W.setCell ⟨w.heap.size + 1, 0, none⟩ (.bool false)) :=
  ⟨by rw [cell_set_other _ (by omega)]; exact h.c2, by rw [World.frozen?_setCell]; exact h.f2, World.cell?_setCell_same _ _ _ h.c1, by rw [World.frozen?_setCell]; exact h.f1, by rw [cell_set_other _ (by omega)]; exact h.c0, below_touch h.ext ((Touch.refl (w.heap.size + 1) W).set 0 _) (by omega)⟩

theorem TrI0.set2 {w : World} {v : Int} {a : Option Addr} {n cap : Nat} {W : World} (h : TrI0 w v a n cap W) (v' : Int) : TrI0 w v' a n cap (W.setCell ⟨w.heap.size + 1 + 1, 0, none⟩ (.int .i64 v')) :=
  ⟨World.cell?_setCell_same _ _ _ h.c2, by rw [World.frozen?_setCell]; exact h.f2, by rw [cell_set_other _ (by omega)]; exact h.c1, by rw [World.frozen?_setCell]; exact h.f1, by rw [cell_set_other _ (by omega)]; exact h.c0, below_touch h.ext ((Touch.refl (w.heap.size + 1 + 1) W).set 0 _) (by omega)⟩

set_option maxHeartbeats 6400000 in
set_option maxRecDepth 100000 in
theorem implTree_any (a : Option Addr) (b off n cap : Nat) (x : Nat → It) (w : World) (hs : ISeg w a b off n x) (hn : n ≤ 1048576) (hk : ∀ i, i < n → (x i).kid ≤ 9223372036854775807) :
    Calls Tryd.prog 17 #[.slice a n cap] w fun e w' => e = .returned (.bool (treeV x n)) ∧ Ext w w' := by
  by_cases h1 : 1 ≤ n
  · have g1 : ¬ (n : Int) < 1 := by omega
    by_cases h300 : n ≤ 300
    · have g2 : ¬ (300 : Int) < (n : Int) := by omega
      obtain rfl := hs.at' (by omega)
      have ltb : b < w.heap.size := hs.lt (by omega)
      refine (callsIn_wide (n := 9)).1 ?_
      refine callsIn_of_wp_marks Tryd.func17 rfl trivial ?_
      simp only [Tryd.ntmps17, List.size_toArray, List.length_cons, List.length_nil, Nat.reduceAdd, Nat.reduceSub, Array.replicate_succ, Array.replicate_zero, List.push_toArray, List.append_toArray, List.nil_append, List.cons_append]
      gi_wp2_with (first | (gi_at_call 31; refine (callsIn_wide.2 (below_any _ _ _ _ _)).mono ?_; rintro e w1 ⟨rfl, rfl⟩) | (refine ⟨trivial, ?_⟩; gi_at_call 31; refine (callsIn_wide.2 (below_any _ _ _ _ _)).mono ?_; rintro e w1 ⟨rfl, rfl⟩))
      obtain ⟨V, hV⟩ : ∃ V, (((((w.alloc (.cells #[.slice (some ⟨b, off, none⟩) n cap] 23)).alloc (.cells #[.bool false] 4)).alloc (.cells #[.int .i64 ((n : Int) - 1)] 3)).alloc (.cells #[.slice (some ⟨b, off, none⟩) n cap] 23)).alloc (.cells #[.int .i64 0] 3)) = V := ⟨_, rfl⟩
      obtain ⟨B0, B1, B2, B3, B4, hE, hsz⟩ := box5 w [.slice (some ⟨b, off, none⟩) n cap] [.bool false] [.int .i64 ((n : Int) - 1)] [.slice (some ⟨b, off, none⟩) n cap] [.int .i64 0] 23 4 3 23 3 (w1 := V) (by rw [← hV]; exact Ext.refl _)
      have sV : V.heap.size = w.heap.size + 5 := by rw [← hV]; simp
      rw [hV]
      have hsV := hs.of_all hE
      have hseq := below1_in 8 (by omega) n 0 (w.heap.size + 1 + 1 + 1 + 1) (w.heap.size + 1 + 1 + 1) b off cap (fun i => (x i).kid) V (Nat.zero_le _) hn (by omega) (B4 0 _ rfl).1 (B3 0 _ rfl).1 (fun i hi => hsV.c2 i hi) hk
      have Hs := hide hs
      have HsV := hide hsV
      have hVs : w.heap.size + 5 ≤ V.heap.size := by omega
      have I0 : TrI0 w ((n : Int) - 1) (some ⟨b, off, none⟩) n cap V := ⟨(B2 0 _ rfl).1, (B2 0 _ rfl).2, (B1 0 _ rfl).1, (B1 0 _ rfl).2, (B0 0 _ rfl).1, hE⟩
      clear hs hsV B0 B1 B2 B3 B4
      refine range_own (n := 9) (by omega) (gf := 54) (lb := #[.pointer (some ⟨w.heap.size + 1 + 1 + 1 + 1, 0, none⟩), .pointer (some ⟨w.heap.size + 1 + 1 + 1, 0, none⟩)]) rfl (enters_of Tryd.func54 (by kernel_rfl) rfl) (w0 := V) (fun k hk => by rcases hk with h | h | h <;> omega) hseq (Below.refl _ _) (fun _ => rfl)
        (fun pre W => ∃ v, chk x (pre.map (·.1)) ((n : Int) - 1) = some v ∧ TrI0 w v (some ⟨b, off, none⟩) n cap W)
        (fun c pre W => c = .ret ∧ chk x (pre.map (·.1)) ((n : Int) - 1) = none ∧ ∃ v, TrI0 w v (some ⟨b, off, none⟩) n cap W)
        (fun s A C ⟨v, h1, h2⟩ k => ⟨v, h1, h2.low hVs k⟩) (fun c s A C ⟨h0, h1, v, h2⟩ k => ⟨h0, h1, v, h2.low hVs k⟩) ⟨_, rfl, I0⟩
        (fun p => { tmps := #[.slice (some ⟨b, off, none⟩) n cap, .pointer (some ⟨w.heap.size, 0, none⟩), .pointer (some ⟨w.heap.size + 1, 0, none⟩), .pointer (some ⟨w.heap.size + 1 + 1, 0, none⟩), .int .i64 (p.1.1 : Int), .int .i64 (p.1.2 : Int), undef, .slice (some ⟨b, off, none⟩) n cap, .int .i64 (n : Int), .bool false, .bool false, .slice (some ⟨b, off, none⟩) n cap, .int .i64 (n : Int), .bool false, .bool false, .slice (some ⟨b, off, none⟩) n cap, .int .i64 (n : Int), .int .i64 ((n : Int) - 1), .slice (some ⟨b, off, none⟩) n cap, .func (.func 54) #[] #[.pointer (some ⟨w.heap.size + 1 + 1 + 1 + 1, 0, none⟩), .pointer (some ⟨w.heap.size + 1 + 1 + 1, 0, none⟩)], .int .i64 (p.1.1 : Int), .int .i64 (p.1.2 : Int), undef, undef, undef, undef, undef, undef, undef, undef, undef, undef, undef, undef, undef, undef, undef, undef, undef, undef, undef, undef, undef, undef, undef], defers := [] }) ?assign ?body ?done ?stop
      case assign =>
        intro l p W K hK
        simp only [encP]
        gi_wp2
        exact hK
      case body =>
        rintro l pre ⟨⟨i, r⟩, hi⟩ W ⟨v, hc, hI⟩ hW2 hlen
        have hWs : w.heap.size + 5 ≤ W.heap.size := by omega
        have hsW := Hs.out.of_all hI.ext
        have a0 := hsW.c0 i hi
        have a1 := hsW.c1 i hi
        have a2 := hsW.c2 i hi
        have hin : (i : Int) < (n : Int) := by omega
        have hv := chk_range x _ _ _ (by omega) hc
        have HIt : Hid (∀ w, Calls Tryd.prog 33 #[.agg #[.int .i64 (x i).tag, .slice (x i).ad (x i).len (x i).cap, .int .i64 (x i).kid]] w fun e w' => e = .returned (.bool (decide (itP (x i)))) ∧ Ext w w') := fun w => itemOk_any (x i) w (hsW.small i hi)
        have kn : (W.alloc (.cells #[.int .i64 (x i).tag, .slice (x i).ad (x i).len (x i).cap, .int .i64 (x i).kid] 55)).cell? ⟨W.heap.size, 2, none⟩ = some (.int .i64 (x i).kid) := (Blk.alloc W [.int .i64 (x i).tag, .slice (x i).ad (x i).len (x i).cap, .int .i64 (x i).kid] 55 2 _ rfl).1
        have d0 := hI.c0
        clear hsW hseq I0 HsV Hs
        by_cases q1 : itP (x i)
        · rw [decide_eq_true q1] at HIt
          have hkid := itP_kid q1
          by_cases q2 : r ≤ 12
          · by_cases q3 : (x i).kid ≤ v
            · have HN : Hid (chk x ((pre ++ [(⟨(i, r), hi⟩ : Pl n)]).map (·.1)) ((n : Int) - 1) = some (v - (x i).kid)) := by
                show _ = _
                rw [List.map_append, List.map_singleton, chk_one x _ _ _ v hc, if_pos ⟨q1, q2, q3⟩]
              have e1 : ¬ (12 : Int) < (r : Int) := by omega
              have e2 : ¬ v < (x i).kid := by omega
              have e3 : wrap64 (v - (x i).kid) = v - (x i).kid := by unfold wrap64; omega
              gi_wp2_with (first | (gi_at_call 33; refine (CallsIn.inRound l (callsIn_wide.2 (HIt.out _))).mono ?_; rintro e W3 ⟨rfl, hE3⟩; have HE3 := hide (Ext.trans (Ext.alloc W _) hE3); have k2 := (Below.cell hE3 (p := ⟨W.heap.size, 2, none⟩) (by simp)).trans kn; have J3 := hI.low hWs HE3.out; obtain ⟨c2, f2, c1, f1, c0, ex⟩ := J3; clear hE3) | (refine ⟨trivial, ?_⟩; gi_at_call 33; refine (CallsIn.inRound l (callsIn_wide.2 (HIt.out _))).mono ?_; rintro e W3 ⟨rfl, hE3⟩; have HE3 := hide (Ext.trans (Ext.alloc W _) hE3); have k2 := (Below.cell hE3 (p := ⟨W.heap.size, 2, none⟩) (by simp)).trans kn; have J3 := hI.low hWs HE3.out; obtain ⟨c2, f2, c1, f1, c0, ex⟩ := J3; clear hE3))
              exact ⟨rd_set (rd_ext HE3.out) (by omega) (by rintro (h | h | h) <;> omega) _, _, HN.out, (TrI0.mk c2 f2 c1 f1 c0 ex).set2 _⟩
            · have hok : ¬ okAt x v (i, r) := fun h => q3 h.2.2
              have e1 : ¬ (12 : Int) < (r : Int) := by omega
              have e2 : v < (x i).kid := by omega
              have HN : Hid (chk x ((pre ++ [(⟨(i, r), hi⟩ : Pl n)]).map (·.1)) ((n : Int) - 1) = none) := by
                show _ = _
                rw [List.map_append, List.map_singleton, chk_one x _ _ _ v hc, if_neg hok]
              gi_wp2_with (first | (gi_at_call 33; refine (CallsIn.inRound l (callsIn_wide.2 (HIt.out _))).mono ?_; rintro e W3 ⟨rfl, hE3⟩; have HE3 := hide (Ext.trans (Ext.alloc W _) hE3); have k2 := (Below.cell hE3 (p := ⟨W.heap.size, 2, none⟩) (by simp)).trans kn; have J3 := hI.low hWs HE3.out; obtain ⟨c2, f2, c1, f1, c0, ex⟩ := J3; clear hE3) | (refine ⟨trivial, ?_⟩; gi_at_call 33; refine (CallsIn.inRound l (callsIn_wide.2 (HIt.out _))).mono ?_; rintro e W3 ⟨rfl, hE3⟩; have HE3 := hide (Ext.trans (Ext.alloc W _) hE3); have k2 := (Below.cell hE3 (p := ⟨W.heap.size, 2, none⟩) (by simp)).trans kn; have J3 := hI.low hWs HE3.out; obtain ⟨c2, f2, c1, f1, c0, ex⟩ := J3; clear hE3))
              exact ⟨rd_set (rd_ext HE3.out) (by omega) (by rintro (h | h | h) <;> omega) _, rfl, HN.out, _, (TrI0.mk c2 f2 c1 f1 c0 ex).set1⟩
          · have hok : ¬ okAt x v (i, r) := fun h => q2 h.2.1
            have e1 : (12 : Int) < (r : Int) := by omega
            have HN : Hid (chk x ((pre ++ [(⟨(i, r), hi⟩ : Pl n)]).map (·.1)) ((n : Int) - 1) = none) := by
              show _ = _
              rw [List.map_append, List.map_singleton, chk_one x _ _ _ v hc, if_neg hok]
            gi_wp2_with (first | (gi_at_call 33; refine (CallsIn.inRound l (callsIn_wide.2 (HIt.out _))).mono ?_; rintro e W3 ⟨rfl, hE3⟩; have HE3 := hide (Ext.trans (Ext.alloc W _) hE3); have k2 := (Below.cell hE3 (p := ⟨W.heap.size, 2, none⟩) (by simp)).trans kn; have J3 := hI.low hWs HE3.out; obtain ⟨c2, f2, c1, f1, c0, ex⟩ := J3; clear hE3) | (refine ⟨trivial, ?_⟩; gi_at_call 33; refine (CallsIn.inRound l (callsIn_wide.2 (HIt.out _))).mono ?_; rintro e W3 ⟨rfl, hE3⟩; have HE3 := hide (Ext.trans (Ext.alloc W _) hE3); have k2 := (Below.cell hE3 (p := ⟨W.heap.size, 2, none⟩) (by simp)).trans kn; have J3 := hI.low hWs HE3.out; obtain ⟨c2, f2, c1, f1, c0, ex⟩ := J3; clear hE3))
            exact ⟨rd_set (rd_ext HE3.out) (by omega) (by rintro (h | h | h) <;> omega) _, rfl, HN.out, _, (TrI0.mk c2 f2 c1 f1 c0 ex).set1⟩
        · have hok : ¬ okAt x v (i, r) := fun h => q1 h.1
          rw [decide_eq_false q1] at HIt
          have HN : Hid (chk x ((pre ++ [(⟨(i, r), hi⟩ : Pl n)]).map (·.1)) ((n : Int) - 1) = none) := by
            show _ = _
            rw [List.map_append, List.map_singleton, chk_one x _ _ _ v hc, if_neg hok]
          gi_wp2_with (first | (gi_at_call 33; refine (CallsIn.inRound l (callsIn_wide.2 (HIt.out _))).mono ?_; rintro e W3 ⟨rfl, hE3⟩; have HE3 := hide (Ext.trans (Ext.alloc W _) hE3); have k2 := (Below.cell hE3 (p := ⟨W.heap.size, 2, none⟩) (by simp)).trans kn; have J3 := hI.low hWs HE3.out; obtain ⟨c2, f2, c1, f1, c0, ex⟩ := J3; clear hE3) | (refine ⟨trivial, ?_⟩; gi_at_call 33; refine (CallsIn.inRound l (callsIn_wide.2 (HIt.out _))).mono ?_; rintro e W3 ⟨rfl, hE3⟩; have HE3 := hide (Ext.trans (Ext.alloc W _) hE3); have k2 := (Below.cell hE3 (p := ⟨W.heap.size, 2, none⟩) (by simp)).trans kn; have J3 := hI.low hWs HE3.out; obtain ⟨c2, f2, c1, f1, c0, ex⟩ := J3; clear hE3))
          exact ⟨rd_set (rd_ext HE3.out) (by omega) (by rintro (h | h | h) <;> omega) _, rfl, HN.out, _, (TrI0.mk c2 f2 c1 f1 c0 ex).set1⟩
      case done =>
        rintro xs W hS ⟨v, hc, hI⟩ hlt hD
        have HV : Hid ((v == 0) = treeV x n) := by
          show _ = _
          rw [← runP_treeV x n h1 h300, runP_chk]
          rw [Nat.sub_zero] at hS
          rw [← hS, hc]
          rfl
        have HE := hide hI.ext
        obtain ⟨c2, f2, c1, f1, c0, ex⟩ := hI
        gi_wp2
        rw [sV] at hD hlt
        refine ⟨by simp, .inl ⟨_, _, rfl, run_takeDeferred (ds := []) ((Below.heap_setCell _ _ _ _ (by first | (simp; done) | (simp; omega))).trans hD), ?_⟩⟩
        refine ⟨.bool (v == 0), results_one Tryd.results17 rfl (load_bool ?_), ret_bool HV.out, ?_⟩
        · refine (Below.cell (putObj_below (w.heap.size + 5) _ (w.heap.size + 5) _ (Nat.le_refl _)) (p := ⟨w.heap.size + 1, 0, none⟩) (by first | (simp; done) | (simp; omega))).trans ?_
          exact World.cell?_setCell_same _ _ _ c1
        · exact Below.trans (below_touch HE.out ((Touch.refl (w.heap.size + 1) W).set 0 _) (by omega)) ((putObj_below (w.heap.size + 5) _ (w.heap.size + 5) _ (Nat.le_refl _)).mono (by omega))
      case stop =>
        rintro c pre W hSp ⟨rfl, hc, v, hI⟩ hlt hD
        have HV : Hid (false = treeV x n) := by
          show _ = _
          rw [← runP_treeV x n h1 h300, runP_chk]
          rw [Nat.sub_zero] at hSp
          rw [chk_prefix x _ _ _ hSp hc]
        have HE := hide hI.ext
        have c1 := hI.c1
        gi_wp2
        rw [sV] at hD hlt
        refine ⟨by simp, .inl ⟨_, _, rfl, run_takeDeferred (ds := []) hD, ?_⟩⟩
        refine ⟨.bool false, results_one Tryd.results17 rfl (load_bool ?_), ret_bool HV.out, ?_⟩
        · exact (Below.cell (putObj_below (w.heap.size + 5) _ (w.heap.size + 5) _ (Nat.le_refl _)) (p := ⟨w.heap.size + 1, 0, none⟩) (by first | (simp; done) | (simp; omega))).trans c1
        · exact Below.trans HE.out ((putObj_below (w.heap.size + 5) _ (w.heap.size + 5) _ (Nat.le_refl _)).mono (by omega))
    · have g2 : (300 : Int) < (n : Int) := by omega
      go_enter Tryd.func17, Tryd.ntmps17
      go_wp2
      have B1 := box2 w [.slice a n cap] [.bool false] 23 4 (Ext.refl _)
      exact bodyPost_ret (results_one Tryd.results17 rfl (load_bool (B1.2.1 0 _ rfl).1)) rfl ⟨ret_bool (by unfold treeV; symm; rw [decide_eq_false_iff_not]; omega), B1.2.2.1⟩
  · have g1 : (n : Int) < 1 := by omega
    go_enter Tryd.func17, Tryd.ntmps17
    go_wp2
    have B1 := box2 w [.slice a n cap] [.bool false] 23 4 (Ext.refl _)
    exact bodyPost_ret (results_one Tryd.results17 rfl (load_bool (B1.2.1 0 _ rfl).1)) rfl ⟨ret_bool (by unfold treeV; symm; rw [decide_eq_false_iff_not]; omega), B1.2.2.1⟩
end

section
set_option linter.unusedVariables false
set_option linter.unusedSimpArgs false

open Go.RowKit

/-- Only blocks from S up to T may have turned; none has come. -/
structure MarkT (S T : Nat) (w w' : World) : Prop where
  os : w'.os = w.os
  tape : w'.tape = w.tape
  output : w'.output = w.output
  size : w'.heap.size = w.heap.size
  same : ∀ k, (k < S ∨ T ≤ k) → w'.heap[k]? = w.heap[k]?

theorem MarkT.refl (S T : Nat) (w : World) : MarkT S T w w := ⟨rfl, rfl, rfl, rfl, fun _ _ => rfl⟩

theorem MarkT.trans {S T : Nat} {a b c : World} (h : MarkT S T a b) (k : MarkT S T b c) : MarkT S T a c := ⟨k.os.trans h.os, k.tape.trans h.tape, k.output.trans h.output, k.size.trans h.size, fun i hi => (k.same i hi).trans (h.same i hi)⟩

theorem MarkT.of_touch {S T g : Nat} {w w' : World} (h : Touch g w w') (h1 : S ≤ g) (h2 : g < T) : MarkT S T w w' :=
  ⟨h.grown.os, h.grown.tape, h.grown.output, h.size, fun k hk => by
    by_cases hl : k < w.heap.size
    · exact h.grown.block k hl (by simp; omega)
    · rw [Array.getElem?_eq_none (by rw [h.size]; omega), Array.getElem?_eq_none (by omega)]⟩

theorem MarkT.set {S T g o : Nat} {w w' : World} (h : MarkT S T w w') (h1 : S ≤ g) (h2 : g < T) (v : Value) : MarkT S T w (w'.setCell ⟨g, o, none⟩ v) := h.trans (MarkT.of_touch ((Touch.refl g w').set o v) h1 h2)

theorem MarkT.below {S T B : Nat} {w0 w w' : World} (h : Below B w0 w) (k : MarkT S T w w') (hB : B ≤ S) : Below B w0 w' := h.trans ⟨k.os, k.tape, k.output, by rw [k.size]; exact Nat.le_refl _, fun i hi => k.same i (.inl (by omega))⟩

def sumL (x : Nat → It) : Nat → Nat
  | 0 => 0
  | k + 1 => sumL x k + (x k).len

/-- A copied list, its items from i on whole. -/
structure Cpy (S n i : Nat) (x : Nat → It) (W : World) : Prop where
  c0 : ∀ j, i ≤ j → j < n → ∃ u, W.cell? ⟨S, j * 3, none⟩ = some (.int .i64 u)
  c1 : ∀ j, i ≤ j → j < n → W.cell? ⟨S, j * 3 + 1, none⟩ = some (.slice (some ⟨S + 4 + 4 * j, 0, none⟩) (x j).len (x j).len)
  c2 : ∀ j, i ≤ j → j < n → ∃ u, W.cell? ⟨S, j * 3 + 2, none⟩ = some (.int .i64 u)
  fz : ∀ o, W.frozen? ⟨S, o, none⟩ = false
  body : ∀ j, i ≤ j → j < n → BOwn W (some ⟨S + 4 + 4 * j, 0, none⟩) (S + 4 + 4 * j) 0 (x j).len (x j).f

theorem Cpy.ext {S n i : Nat} {x : Nat → It} {W W' : World} (h : Cpy S n i x W) (e : Ext W W') (hn : 0 < n) (hi : i < n) : Cpy S n i x W' := by
  have hS : S < W.heap.size := World.block_lt_of_cell? _ _ (h.c1 i (Nat.le_refl _) hi)
  have hb : W'.heap[S]? = W.heap[S]? := Below.block e S hS
  have hc : ∀ o, W'.cell? ⟨S, o, none⟩ = W.cell? ⟨S, o, none⟩ := fun o => World.cell?_of_block (a := ⟨S, o, none⟩) hb
  refine ⟨fun j h1 h2 => ?_, fun j h1 h2 => by rw [hc]; exact h.c1 j h1 h2, fun j h1 h2 => ?_, fun o => by rw [World.frozen?_of_block (a := ⟨S, o, none⟩) hb]; exact h.fz o, fun j h1 h2 => BOwn.of_all (h.body j h1 h2) e⟩
  · rw [hc]; exact h.c0 j h1 h2
  · rw [hc]; exact h.c2 j h1 h2

theorem cell_off {W : World} {S o p : Nat} (v : Value) (h : o ≠ p) : (W.setCell ⟨S, o, none⟩ v).cell? ⟨S, p, none⟩ = W.cell? ⟨S, p, none⟩ :=
  World.cell?_setCell_other _ _ _ _ (fun e => h (by have := congrArg Addr.off e; simp at this; omega))

/-- A store into the item at i. -/
theorem Cpy.set {S n i : Nat} {x : Nat → It} {W : World} (h : Cpy S n i x W) (o : Nat) (ho : o = i * 3 ∨ o = i * 3 + 2) (u : Int) : Cpy S n i x (W.setCell ⟨S, o, none⟩ (.int .i64 u)) := by
  have hb : ∀ j, S + 4 + 4 * j ≠ S := fun j => by omega
  refine ⟨fun j h1 h2 => ?_, fun j h1 h2 => ?_, fun j h1 h2 => ?_, fun o' => by rw [World.frozen?_setCell]; exact h.fz o', fun j h1 h2 => BOwn.touch (h.body j h1 h2) ((Touch.refl S W).set o _) (fun _ => hb j)⟩
  · obtain ⟨v, hv⟩ := h.c0 j h1 h2
    by_cases e : o = j * 3
    · subst e; exact ⟨u, World.cell?_setCell_same _ _ _ hv⟩
    · exact ⟨v, by rw [cell_off _ e]; exact hv⟩
  · rw [cell_off _ (by omega)]; exact h.c1 j h1 h2
  · obtain ⟨v, hv⟩ := h.c2 j h1 h2
    by_cases e : o = j * 3 + 2
    · subst e; exact ⟨u, World.cell?_setCell_same _ _ _ hv⟩
    · exact ⟨v, by rw [cell_off _ e]; exact hv⟩

theorem Cpy.next {S n i : Nat} {x : Nat → It} {W : World} (h : Cpy S n i x W) : Cpy S n (i + 1) x W :=
  ⟨fun j h1 h2 => h.c0 j (by omega) h2, fun j h1 h2 => h.c1 j (by omega) h2, fun j h1 h2 => h.c2 j (by omega) h2, h.fz, fun j h1 h2 => h.body j (by omega) h2⟩

theorem Cpy.old {S n i : Nat} {x : Nat → It} {W : World} (h : Cpy S n i x W) (o : Nat) (ho : o < i * 3) (u : Int) : Cpy S n i x (W.setCell ⟨S, o, none⟩ (.int .i64 u)) := by
  refine ⟨fun j h1 h2 => ?_, fun j h1 h2 => ?_, fun j h1 h2 => ?_, fun o' => by rw [World.frozen?_setCell]; exact h.fz o', fun j h1 h2 => BOwn.touch (h.body j h1 h2) ((Touch.refl S W).set o _) (fun _ => by omega)⟩
  · rw [cell_off _ (by omega)]; exact h.c0 j h1 h2
  · rw [cell_off _ (by omega)]; exact h.c1 j h1 h2
  · rw [cell_off _ (by omega)]; exact h.c2 j h1 h2
end

section
set_option linter.unusedVariables false
set_option linter.unusedSimpArgs false

open Go.RowKit

/-- Nothing below B has turned, and nothing has come. -/
structure Mrk (B : Nat) (w w' : World) : Prop where
  below : Below B w w'
  size : w'.heap.size = w.heap.size

theorem Mrk.refl (B : Nat) (w : World) : Mrk B w w := ⟨Below.refl _ _, rfl⟩

theorem Mrk.trans {B : Nat} {a b c : World} (h : Mrk B a b) (k : Mrk B b c) : Mrk B a c := ⟨Below.trans h.below k.below, k.size.trans h.size⟩

theorem Mrk.of_touch {B g : Nat} {w w' : World} (h : Touch g w w') (hg : B ≤ g) (hB : B ≤ w.heap.size) : Mrk B w w' :=
  ⟨⟨h.grown.os, h.grown.tape, h.grown.output, by rw [h.size]; exact Nat.le_refl _, fun k hk => h.grown.block k (by omega) (by simp; omega)⟩, h.size⟩

/-- n items whose row and bodies lie apart, at B or behind. -/
structure IOw (B : Nat) (w : World) (a : Option Addr) (S off n : Nat) (x : Nat → It) : Prop extends ISeg w a S off n x where
  fz : ∀ o, off ≤ o → o < off + n * 3 → w.frozen? ⟨S, o, none⟩ = false
  free : ∀ j, j < n → ∀ m, m < (x j).len → w.frozen? ⟨(x j).blk, (x j).off + m, none⟩ = false
  away : ∀ j, j < n → 0 < (x j).len → (x j).blk ≠ S ∧ B ≤ (x j).blk
  apart : ∀ i j, i < n → j < n → i ≠ j → 0 < (x i).len → 0 < (x j).len → (x i).blk ≠ (x j).blk
  rowB : 0 < n → B ≤ S

theorem IOw.own {B : Nat} {w : World} {a : Option Addr} {S off n : Nat} {x : Nat → It} (h : IOw B w a S off n x) {j : Nat} (hj : j < n) : BOwn w (x j).ad (x j).blk (x j).off (x j).len (x j).f := ⟨h.body j hj, h.free j hj⟩

theorem IOw.of_all {B : Nat} {w w' : World} {a : Option Addr} {S off n : Nat} {x : Nat → It} (h : IOw B w a S off n x) (e : Ext w w') : IOw B w' a S off n x :=
  ⟨h.toISeg.of_all e, fun o h1 h2 => (World.frozen?_of_block (a := ⟨S, o, none⟩) (Below.block e S (h.toISeg.lt (by omega)))).trans (h.fz o h1 h2), fun j hj => (BOwn.of_all (h.own hj) e).free, h.away, h.apart, h.rowB⟩

/-- The row turned, the bodies stay. -/
theorem IOw.row {B : Nat} {w w' : World} {a : Option Addr} {S off n : Nat} {x y : Nat → It} (h : IOw B w a S off n x) (t : Touch S w w')
    (hy : ∀ i, i < n → (y i).ad = (x i).ad ∧ (y i).blk = (x i).blk ∧ (y i).off = (x i).off ∧ (y i).len = (x i).len ∧ (y i).cap = (x i).cap ∧ (y i).f = (x i).f)
    (d0 : ∀ i, i < n → w'.cell? ⟨S, off + i * 3, none⟩ = some (.int .i64 (y i).tag))
    (d1 : ∀ i, i < n → w'.cell? ⟨S, off + i * 3 + 1, none⟩ = some (.slice (x i).ad (x i).len (x i).cap))
    (d2 : ∀ i, i < n → w'.cell? ⟨S, off + i * 3 + 2, none⟩ = some (.int .i64 (y i).kid))
    (fz : ∀ o, off ≤ o → o < off + n * 3 → w'.frozen? ⟨S, o, none⟩ = false) : IOw B w' a S off n y := by
  refine ⟨⟨h.at', d0, fun i hi => ?_, d2, fun i hi => ?_, fun i hi => ?_⟩, fz, fun i hi => ?_, fun i hi => ?_, fun i j hi hj hij => ?_, h.rowB⟩
  · obtain ⟨e1, e2, e3, e4, e5, e6⟩ := hy i hi; rw [e1, e4, e5]; exact d1 i hi
  · obtain ⟨e1, e2, e3, e4, e5, e6⟩ := hy i hi; rw [e1, e2, e3, e4, e6]; exact ((h.own hi).touch t (fun h0 => (h.away i hi h0).1)).toBSeg
  · obtain ⟨e1, e2, e3, e4, e5, e6⟩ := hy i hi; rw [e4]; exact h.small i hi
  · obtain ⟨e1, e2, e3, e4, e5, e6⟩ := hy i hi; rw [e2, e3, e4]; exact ((h.own hi).touch t (fun h0 => (h.away i hi h0).1)).free
  · obtain ⟨e1, e2, e3, e4, e5, e6⟩ := hy i hi; rw [e2, e4]; exact h.away i hi
  · obtain ⟨-, e2, -, e4, -, -⟩ := hy i hi
    obtain ⟨-, f2, -, f4, -, -⟩ := hy j hj
    rw [e2, e4, f2, f4]; exact h.apart i j hi hj hij

def updI (x : Nat → It) (j : Nat) (t : It) : Nat → It := fun i => if i = j then t else x i

theorem updI_same (x : Nat → It) (j : Nat) (t : It) : updI x j t j = t := if_pos rfl

theorem updI_other (x : Nat → It) {i j : Nat} (t : It) (h : i ≠ j) : updI x j t i = x i := if_neg h

theorem IOw.tag {B : Nat} {w : World} {a : Option Addr} {S off n : Nat} {x : Nat → It} (h : IOw B w a S off n x) {j : Nat} (hj : j < n) (t : Int) :
    IOw B (w.setCell ⟨S, off + j * 3, none⟩ (.int .i64 t)) a S off n (updI x j { x j with tag := t }) := by
  refine h.row ((Touch.refl S w).set _ _) (fun i hi => ?_) (fun i hi => ?_) (fun i hi => ?_) (fun i hi => ?_) (fun o h1 h2 => by rw [World.frozen?_setCell]; exact h.fz o h1 h2)
  · by_cases e : i = j
    · subst e; rw [updI_same]; exact ⟨rfl, rfl, rfl, rfl, rfl, rfl⟩
    · rw [updI_other _ _ e]; exact ⟨rfl, rfl, rfl, rfl, rfl, rfl⟩
  · by_cases e : i = j
    · subst e; rw [updI_same]; exact World.cell?_setCell_same _ _ _ (h.c0 i hi)
    · rw [updI_other _ _ e, cell_off _ (by omega)]; exact h.c0 i hi
  · rw [cell_off _ (by omega)]; exact h.c1 i hi
  · rw [cell_off _ (by omega)]
    by_cases e : i = j
    · subst e; rw [updI_same]; exact h.c2 i hi
    · rw [updI_other _ _ e]; exact h.c2 i hi

theorem IOw.kid {B : Nat} {w : World} {a : Option Addr} {S off n : Nat} {x : Nat → It} (h : IOw B w a S off n x) {j : Nat} (hj : j < n) (t : Int) :
    IOw B (w.setCell ⟨S, off + j * 3 + 2, none⟩ (.int .i64 t)) a S off n (updI x j { x j with kid := t }) := by
  refine h.row ((Touch.refl S w).set _ _) (fun i hi => ?_) (fun i hi => ?_) (fun i hi => ?_) (fun i hi => ?_) (fun o h1 h2 => by rw [World.frozen?_setCell]; exact h.fz o h1 h2)
  · by_cases e : i = j
    · subst e; rw [updI_same]; exact ⟨rfl, rfl, rfl, rfl, rfl, rfl⟩
    · rw [updI_other _ _ e]; exact ⟨rfl, rfl, rfl, rfl, rfl, rfl⟩
  · rw [cell_off _ (by omega)]
    by_cases e : i = j
    · subst e; rw [updI_same]; exact h.c0 i hi
    · rw [updI_other _ _ e]; exact h.c0 i hi
  · rw [cell_off _ (by omega)]; exact h.c1 i hi
  · by_cases e : i = j
    · subst e; rw [updI_same]; exact World.cell?_setCell_same _ _ _ (h.c2 i hi)
    · rw [updI_other _ _ e, cell_off _ (by omega)]; exact h.c2 i hi
end

section
set_option linter.unusedVariables false
set_option linter.unusedSimpArgs false

open Go.RowKit

def itW (t : It) : List Value := [.int .i64 t.tag, .slice t.ad t.len t.cap, .int .i64 t.kid]

def itsW (y : Nat → It) : Nat → List Value
  | 0 => []
  | m + 1 => itsW y m ++ itW (y m)

theorem itW_len (t : It) : (itW t).length = 3 := rfl

theorem itsW_len (y : Nat → It) : ∀ m, (itsW y m).length = m * 3
  | 0 => rfl
  | m + 1 => by rw [itsW, List.length_append, itsW_len y m, itW_len]; omega

theorem itsW_at (y : Nat → It) : ∀ m i r, i < m → r < 3 → (itsW y m)[i * 3 + r]? = (itW (y i))[r]?
  | 0, i, r, h, _ => absurd h (Nat.not_lt_zero _)
  | m + 1, i, r, h, hr => by
    rw [itsW]
    by_cases c : i < m
    · rw [List.getElem?_append_left (by rw [itsW_len]; omega)]
      exact itsW_at y m i r c hr
    · obtain rfl : i = m := by omega
      rw [List.getElem?_append_right (by rw [itsW_len]; omega), itsW_len]
      congr 1
      omega

theorem itsW_congr {y z : Nat → It} : ∀ {m : Nat}, (∀ i, i < m → y i = z i) → itsW y m = itsW z m
  | 0, _ => rfl
  | m + 1, h => by rw [itsW, itsW, itsW_congr (fun i hi => h i (by omega)), h m (by omega)]

theorem itW_one (t : It) : ∀ u ∈ itW t, u.oneCell' = true := by
  intro u hu
  simp only [itW, List.mem_cons, List.not_mem_nil, or_false] at hu
  rcases hu with rfl | rfl | rfl <;> rfl

theorem ownsRow_ext {W W' : World} {B e s n : Nat} {v : Value} {xs : List Value} (h : W.ownsRow B e s v n xs) (x : Ext W W') : W'.ownsRow B e s v n xs := by
  refine ⟨h.1, ?_⟩
  rcases h.2 with h0 | ⟨g, cap, cur, rfl, hb, hg, rest⟩
  · exact .inl h0
  · refine .inr ⟨g, cap, cur, rfl, hb, ?_, rest⟩
    have hl : g < W.heap.size := by
      by_cases c : g < W.heap.size
      · exact c
      · rw [Array.getElem?_eq_none (by omega)] at hg; exact absurd hg (by simp)
    exact (Below.block x g hl).trans hg

/-- m items made so far: v is the list. -/
structure IAcc (B : Nat) (W : World) (v : Value) (m : Nat) (y : Nat → It) : Prop where
  row : W.ownsRow B 55 3 v m (itsW y m)
  body : ∀ i, i < m → BOwn W (y i).ad (y i).blk (y i).off (y i).len (y i).f
  away : ∀ i, i < m → 0 < (y i).len → v.ownBlock ≠ some (y i).blk ∧ B ≤ (y i).blk
  apart : ∀ i j, i < m → j < m → i ≠ j → 0 < (y i).len → 0 < (y j).len → (y i).blk ≠ (y j).blk

theorem IAcc.of_all {B : Nat} {W W' : World} {v : Value} {m : Nat} {y : Nat → It} (h : IAcc B W v m y) (e : Ext W W') : IAcc B W' v m y :=
  ⟨ownsRow_ext h.row e, fun i hi => BOwn.of_all (h.body i hi) e, h.away, h.apart⟩

theorem IAcc.congr {B : Nat} {W : World} {v : Value} {m : Nat} {y z : Nat → It} (h : IAcc B W v m y) (e : ∀ i, i < m → y i = z i) : IAcc B W v m z :=
  ⟨by rw [← itsW_congr e]; exact h.row, fun i hi => by rw [← e i hi]; exact h.body i hi, fun i hi => by rw [← e i hi]; exact h.away i hi, fun i j hi hj => by rw [← e i hi, ← e j hj]; exact h.apart i j hi hj⟩

theorem IAcc.iow {B : Nat} {W : World} {v : Value} {m : Nat} {y : Nat → It} (h : IAcc B W v m y) (hs : ∀ i, i < m → (y i).len ≤ 9223372036854775807) : ∃ a S cap, v = .slice a m cap ∧ IOw B W a S 0 m y := by
  have hr := h.row
  rcases h.row.2 with ⟨rfl, rfl⟩ | ⟨g, cap, cur, rfl, hb, hg, hn, hm, hz, ht⟩
  · exact ⟨none, B, 0, rfl, ⟨⟨fun h => absurd h (by omega), fun i hi => absurd hi (by omega), fun i hi => absurd hi (by omega), fun i hi => absurd hi (by omega), fun i hi => absurd hi (by omega), fun i hi => absurd hi (by omega)⟩, fun o h1 h2 => absurd h2 (by omega), fun i hi => absurd hi (by omega), fun i hi => absurd hi (by omega), fun i j hi => absurd hi (by omega), fun _ => Nat.le_refl _⟩⟩
  · have hc : ∀ i r, i < m → r < 3 → W.cell? ⟨g, 0 + i * 3 + r, none⟩ = (itW (y i))[r]? := fun i r hi hr3 => by
      rw [World.ownsRow.cellAt hr (0 + i * 3 + r) (by omega), ← itsW_at y m i r hi hr3]
      congr 1
      omega
    exact ⟨_, g, cap, rfl, ⟨⟨fun _ => rfl, fun i hi => hc i 0 hi (by omega), fun i hi => hc i 1 hi (by omega), fun i hi => hc i 2 hi (by omega), fun i hi => (h.body i hi).toBSeg, hs⟩, fun o _ _ => World.ownsRow.frozenAt hr o, fun i hi => (h.body i hi).free, fun i hi h0 => ⟨fun e => (h.away i hi h0).1 (by rw [e]; rfl), (h.away i hi h0).2⟩, h.apart, fun _ => hb⟩⟩

/-- One item more: its body is new, and apart. -/
theorem IAcc.step {B : Nat} {W W2 w1 : World} {v v' : Value} {m : Nat} {y : Nat → It} {t : It} (h : IAcc B W v m y) (e : Ext W W2)
    (hb : BOwn W2 t.ad t.blk t.off t.len t.f) (hB : 0 < t.len → B ≤ t.blk) (hv : 0 < t.len → v.ownBlock ≠ some t.blk) (ha : ∀ i, i < m → 0 < (y i).len → 0 < t.len → (y i).blk ≠ t.blk)
    (hown : w1.ownsRow B 55 3 v' (m + 1) (itsW y m ++ itW t)) (hg : W2.grownBy w1 v.ownBlock) (hat : v'.ownBlock = v.ownBlock ∨ v'.ownBlock = some W2.heap.size) :
    IAcc B w1 v' (m + 1) (updI y m t) := by
  have hk : ∀ {a : Option Addr} {b o n : Nat} {f : Nat → Int}, BOwn W2 a b o n f → (0 < n → v.ownBlock ≠ some b) → BOwn w1 a b o n f ∧ (0 < n → v'.ownBlock ≠ some b) := fun {a b o n f} hO hne => by
    refine ⟨?_, fun h0 hh => ?_⟩
    · by_cases c : 0 < n
      · have hbl : w1.heap[b]? = W2.heap[b]? := hg.block b (hO.lt c) (fun hh => hne c hh.symm)
        exact ⟨⟨hO.at', fun i hi => (World.cell?_of_block (a := ⟨b, o + i, none⟩) hbl).trans (hO.cell i hi)⟩, fun i hi => (World.frozen?_of_block (a := ⟨b, o + i, none⟩) hbl).trans (hO.free i hi)⟩
      · rw [show n = 0 by omega]; exact BOwn.nil _ _ _ _ _
    · rcases hat with h1 | h1
      · exact hne h0 (by rw [← h1]; exact hh)
      · rw [h1] at hh
        simp only [Option.some.injEq] at hh
        have := hO.lt h0
        omega
  have hy : ∀ i, i < m → updI y m t i = y i := fun i hi => updI_other _ _ (by omega)
  have hO := fun i (hi : i < m) => hk (BOwn.of_all (h.body i hi) e) (fun h0 => (h.away i hi h0).1)
  have hT := hk hb hv
  refine ⟨?_, fun i hi => ?_, fun i hi => ?_, fun i j hi hj hij => ?_⟩
  · rw [itsW, updI_same, itsW_congr hy]; exact hown
  · by_cases c : i = m
    · subst c; rw [updI_same]; exact hT.1
    · rw [updI_other _ _ c]; exact (hO i (by omega)).1
  · by_cases c : i = m
    · subst c; rw [updI_same]; exact fun h0 => ⟨hT.2 h0, hB h0⟩
    · rw [updI_other _ _ c]; exact fun h0 => ⟨(hO i (by omega)).2 h0, (h.away i (by omega) h0).2⟩
  · by_cases c : i = m
    · have c2 : j ≠ m := fun e2 => hij (c.trans e2.symm)
      rw [updI_other _ _ c2, c, updI_same]
      exact fun h1 h2 hh => ha j (by omega) h2 h1 hh.symm
    · rw [updI_other _ _ c]
      by_cases c2 : j = m
      · rw [c2, updI_same]; exact fun h1 h2 => ha i (by omega) h1 h2
      · rw [updI_other _ _ c2]; exact h.apart i j (by omega) (by omega) hij

theorem Tryd.infoIt : (Tryd.prog.info? 55).map (fun i => (i.zero, i.size, i.bytes)) = some (some (.agg #[.int .i64 0, .slice none 0 0, .int .i64 0]), 3, 40) := by kernel_rfl
end

end Go.Proofs.YtmcdikbcmikihaaDoor
