/- Walks: PointRead of the program. -/
import Derived.Test.YtnhemiaklkkilaaDoorCurveD2
import Derived.Test.YtnhemiaklkkilaaDoorCurveB2
namespace Go.Proofs.YtnhemiaklkkilaaDoor
set_option linter.unusedVariables false
set_option linter.unusedSimpArgs false
open Go.RowKit Go.Sort

theorem groupOf_lit (P A B N gx gy : Int) (w : World) : Calls Tryd.prog 32 #[.agg #[.int .i64 P, .int .i64 A, .int .i64 B, .int .i64 N, .int .i64 gx, .int .i64 gy]] w fun r w' => r = .returned (.agg #[.func (.func 54) #[.agg #[.int .i64 P, .int .i64 A, .int .i64 B, .int .i64 N, .int .i64 gx, .int .i64 gy]] #[], .func (.func 55) #[.agg #[.int .i64 P, .int .i64 A, .int .i64 B, .int .i64 N, .int .i64 gx, .int .i64 gy]] #[], .func (.func 56) #[.agg #[.int .i64 P, .int .i64 A, .int .i64 B, .int .i64 N, .int .i64 gx, .int .i64 gy]] #[], .func (.func 57) #[.agg #[.int .i64 P, .int .i64 A, .int .i64 B, .int .i64 N, .int .i64 gx, .int .i64 gy]] #[]]) ∧ Below w.heap.size w w' := groupOf_any P A B N gx gy w

theorem Fr1.put {w wr : World} {P A B N gx gy : Int} {z : Pt} (h : Fr1 w wr P A B N gx gy z) (c : Pt) : Below w.heap.size w (putPt wr (w.heap.size + 1) c) := below_put h.below (by omega) c

set_option maxHeartbeats 6400000 in
set_option maxRecDepth 100000 in
theorem implPointRead_any (P A B N gx gy : Int) (a : Option Addr) (b off n cap : Nat) (f : Nat → Int) (w : World) (hP1 : P ≤ 9223372036854775807) (hN1 : N ≤ 9223372036854775807) (hT : Tab w) (hs : BSeg w a b off n f) (hr : ∀ i, i < n → 0 ≤ f i ∧ f i ≤ 255) (hcap : n ≤ cap) :
    Calls Tryd.prog 18 #[.agg #[.int .i64 P, .int .i64 A, .int .i64 B, .int .i64 N, .int .i64 gx, .int .i64 gy], .slice a n cap] w fun r w' => GivesRd P A B N gx gy n f r ∧ Below w.heap.size w w' := by
  have F0 : Fr1 w ((w.alloc (.cells #[.int .i64 P, .int .i64 A, .int .i64 B, .int .i64 N, .int .i64 gx, .int .i64 gy] 25)).alloc (.cells #[.int .i64 0, .int .i64 0, .bool false] 27)) P A B N gx gy zeroP := Fr1.box w P A B N gx gy zeroP 25 27
  have HF := hide F0
  obtain ⟨⟨k0, k1, k2, k3, k4, k5⟩, -, -, -⟩ := F0
  go_enter Tryd.func18, Tryd.ntmps18
  go_wp2_with fail
  refine (implCurveOk_any P A B N gx gy _ hP1 hN1).mono ?_
  rintro r w1 ⟨⟨ok, rfl, h1⟩, hw1⟩
  have F1 := HF.out.call hw1
  have HF1 := hide F1
  clear k0 k1 k2 k3 k4 k5 HF hw1
  obtain ⟨⟨k0, k1, k2, k3, k4, k5⟩, ⟨a0, a1, a2, b0, b1, b2⟩, -, -⟩ := F1
  simp only [zeroP] at a0 a1 a2
  cases ok
  · have Hn : Hid (GivesRd P A B N gx gy n f (.returned (.tuple #[.agg #[.int .i64 0, .int .i64 0, .bool false], .bool false]))) := givesRd_no (fun c v h => by simpa using h1.2 v)
    clear h1
    go_wp2
    refine bodyPost_ret (v := .tuple #[.agg #[.int .i64 0, .int .i64 0, .bool false], .bool false]) (by simp [results, Tryd.results18, go_sem, a0, a1, a2]) rfl ⟨Hn.out, ?_⟩
    exact HF1.out.put zeroP
  have Hc := hide (h1.1 rfl)
  clear h1
  by_cases hn : n = 0
  · have Hn : Hid (GivesRd P A B N gx gy n f (.returned (.tuple #[.agg #[.int .i64 0, .int .i64 0, .bool false], .bool false]))) := givesRd_no (fun c v h => by
      rcases h with ⟨e, _⟩ | ⟨e, _⟩ | ⟨e, _⟩ <;> omega)
    subst hn
    go_wp2
    refine bodyPost_ret (v := .tuple #[.agg #[.int .i64 0, .int .i64 0, .bool false], .bool false]) (by simp [results, Tryd.results18, go_sem, a0, a1, a2]) rfl ⟨Hn.out, ?_⟩
    exact HF1.out.put zeroP
  have hn0 : ((n : Int) == 0) = false := by simp; omega
  have hnpos : (0 : Int) < (n : Int) := by omega
  go_wp2_with fail
  refine (groupOf_lit P A B N gx gy _).mono ?_
  rintro r w2 ⟨rfl, hw2⟩
  have hn : Below w2.heap.size w2 (w2.alloc (.cells #[.func (.func 54) #[.agg #[.int .i64 P, .int .i64 A, .int .i64 B, .int .i64 N, .int .i64 gx, .int .i64 gy]] #[], .func (.func 55) #[.agg #[.int .i64 P, .int .i64 A, .int .i64 B, .int .i64 N, .int .i64 gx, .int .i64 gy]] #[], .func (.func 56) #[.agg #[.int .i64 P, .int .i64 A, .int .i64 B, .int .i64 N, .int .i64 gx, .int .i64 gy]] #[], .func (.func 57) #[.agg #[.int .i64 P, .int .i64 A, .int .i64 B, .int .i64 N, .int .i64 gx, .int .i64 gy]] #[]] 62)) := (Below.refl _ _).alloc (Nat.le_refl _) _
  have F3 := (HF1.out.call hw2).call hn
  have G3 := GrpAt.alloc w2 P A B N gx gy 62
  have HF3 := hide F3
  have HS3 := hide (hs.of_all F3.below)
  have HT3 := hide (hT.all F3.below)
  clear k0 k1 k2 k3 k4 k5 a0 a1 a2 b0 b1 b2 HF1 hw2 hn hn0
  obtain ⟨-, ⟨a0, a1, a2, b0, b1, b2⟩, -, -⟩ := F3
  obtain ⟨k0, k1, k2, k3⟩ := G3
  simp only [zeroP] at a0 a1 a2
  have hb := HS3.out.lt (by omega)
  by_cases c1 : n = 1 ∧ f 0 = 0
  · obtain ⟨rfl, h0⟩ := c1
    have HG : Hid (GivesRd P A B N gx gy 1 f (.returned (.tuple #[.agg #[.int .i64 0, .int .i64 0, .bool true], .bool true]))) := givesRd_yes (c := farP) Hc.out (Or.inl ⟨rfl, h0, rfl⟩)
    have hcl := HS3.out.cell 0 (by omega)
    obtain rfl := hs.at' (by omega)
    rw [Nat.add_zero, h0] at hcl
    clear hs hr h0
    go_wp2_with fail
    refine (farPoint_lit _).mono ?_
    rintro r w5 ⟨rfl, hw5⟩
    have F5 := HF3.out.call hw5
    have HF5 := hide F5
    clear k0 k1 k2 k3 a0 a1 a2 b0 b1 b2 HF3 hw5 hcl
    obtain ⟨-, ⟨a0, a1, a2, b0, b1, b2⟩, -, -⟩ := F5
    simp only [zeroP] at a0 a1 a2
    go_wp2
    refine bodyPost_ret (v := .tuple #[.agg #[.int .i64 0, .int .i64 0, .bool true], .bool true]) (by simp [results, Tryd.results18, go_sem, a0, a1, a2]) rfl ⟨HG.out, ?_⟩
    exact HF5.out.put farP
  by_cases c4 : n = 4 ∧ f 0 = 2
  · obtain ⟨rfl, h0⟩ := c4
    obtain ⟨x, hx⟩ : ∃ x, rd3 f 1 = x := ⟨_, rfl⟩
    obtain ⟨c, ok, hA⟩ := optAt_some P A B x 0
    have HG : Hid (GivesRd P A B N gx gy 4 f (.returned (.tuple #[.agg #[.int .i64 c.x, .int .i64 c.y, .bool c.far], .bool ok]))) := by
      refine ⟨c, ok, rfl, ?_⟩
      rcases hA with ⟨rfl, k1, k2, k3, k4⟩ | ⟨rfl, rfl, k⟩
      · exact Or.inl ⟨rfl, Hc.out, Or.inr (Or.inr ⟨rfl, by omega, k1, k2.trans hx.symm, by rw [k3, h0]; rfl, k4⟩)⟩
      · refine Or.inr ⟨rfl, fun d v hd => ?_, rfl⟩
        rcases hd with ⟨e, _⟩ | ⟨e, _⟩ | ⟨_, _, k1, k2, k3, k4⟩
        · omega
        · omega
        · have := k4.aff k1
          rw [k2, hx] at this
          exact k d.y (by omega) this
    have HAt : Hid (∀ W, Tab W → Calls Tryd.prog 38 #[.agg #[.func (.func 54) #[.agg #[.int .i64 P, .int .i64 A, .int .i64 B, .int .i64 N, .int .i64 gx, .int .i64 gy]] #[], .func (.func 55) #[.agg #[.int .i64 P, .int .i64 A, .int .i64 B, .int .i64 N, .int .i64 gx, .int .i64 gy]] #[], .func (.func 56) #[.agg #[.int .i64 P, .int .i64 A, .int .i64 B, .int .i64 N, .int .i64 gx, .int .i64 gy]] #[], .func (.func 57) #[.agg #[.int .i64 P, .int .i64 A, .int .i64 B, .int .i64 N, .int .i64 gx, .int .i64 gy]] #[]], .int .i64 x, .int .i64 0] W fun r w' => r = .returned (.tuple #[.agg #[.int .i64 c.x, .int .i64 c.y, .bool c.far], .bool ok]) ∧ Below W.heap.size W w') := fun W hW => at_at P A B N gx gy x 0 c ok hA W hW Hc.out.num (by omega)
    have HX : Hid (∀ W, BSeg W (some ⟨b, off, none⟩) b off 4 f → Calls Tryd.prog 39 #[.slice (some ⟨b, off + 1, none⟩) 3 (cap - 1)] W fun r w' => r = .returned (.int .i64 x) ∧ Below W.heap.size W w') := fun W h => by
      have := readHigh_any b (off + 1) (cap - 1) (fun i => f (1 + i)) W (h.drop 1 3 (by omega)) (fun i hi => hr _ (by omega))
      rwa [show rd3 (fun i => f (1 + i)) 0 = x from hx] at this
    have hcl := HS3.out.cell 0 (by omega)
    obtain rfl := hs.at' (by omega)
    rw [Nat.add_zero, h0] at hcl
    obtain ⟨o1, eo1⟩ : ∃ o, off + 1 = o := ⟨_, rfl⟩
    obtain ⟨p1, ep1⟩ : ∃ o, cap - 1 = o := ⟨_, rfl⟩
    rw [eo1, ep1] at HX
    have h4c : (4 : Int) ≤ (cap : Int) := by omega
    have hc1 : ¬ cap = 1 := by omega
    have e0 := cell_regrown k0
    have e1 := cell_regrown k1
    have e2 := cell_regrown k2
    have e3 := cell_regrown k3
    clear hA hx h0 hs hr
    go_wp2
    refine region_heads_tail 7 (by kernel_rfl) (by kernel_rfl) (fun _ _ d _ _ h => by cases d <;> exact h) ?_
    repeat (refine headS_step (fun K hK => ?_); go_simp; first | (refine hK _ ?_; clear hK K) | (apply Exists.intro; refine ⟨fun _ => ?_, hK _ ?_⟩; (first | (go_at_call_of 39 (p1); exact calls_head (HX.out _ (HS3.out.of_all (below_regrown _ _ _)))) | (go_at_call_of 38 (x); exact calls_head (HAt.out _ (HT3.out.all (below_regrown _ _ _))))); clear hK K))
    refine headS_nil ?_
    intro w5 hw5
    simp only [List.drop_succ_cons, List.drop_zero]
    clear eo1 ep1 h4c hc1 HX HAt
    clear e0 e1 e2 e3
    have F5 := HF3.out.call hw5
    have HF5 := hide F5
    clear k0 k1 k2 k3 a0 a1 a2 b0 b1 b2 HF3 hw5 hcl
    obtain ⟨-, ⟨a0, a1, a2, b0, b1, b2⟩, -, -⟩ := F5
    simp only [zeroP] at a0 a1 a2
    go_wp2
    refine bodyPost_ret (v := .tuple #[.agg #[.int .i64 c.x, .int .i64 c.y, .bool c.far], .bool ok]) (by simp [results, Tryd.results18, go_sem, a0, a1, a2]) rfl ⟨HG.out, ?_⟩
    exact HF5.out.put c
  by_cases c5 : n = 4 ∧ f 0 = 3
  · obtain ⟨rfl, h0⟩ := c5
    obtain ⟨x, hx⟩ : ∃ x, rd3 f 1 = x := ⟨_, rfl⟩
    obtain ⟨c, ok, hA⟩ := optAt_some P A B x 1
    have HG : Hid (GivesRd P A B N gx gy 4 f (.returned (.tuple #[.agg #[.int .i64 c.x, .int .i64 c.y, .bool c.far], .bool ok]))) := by
      refine ⟨c, ok, rfl, ?_⟩
      rcases hA with ⟨rfl, k1, k2, k3, k4⟩ | ⟨rfl, rfl, k⟩
      · exact Or.inl ⟨rfl, Hc.out, Or.inr (Or.inr ⟨rfl, by omega, k1, k2.trans hx.symm, by rw [k3, h0]; rfl, k4⟩)⟩
      · refine Or.inr ⟨rfl, fun d v hd => ?_, rfl⟩
        rcases hd with ⟨e, _⟩ | ⟨e, _⟩ | ⟨_, _, k1, k2, k3, k4⟩
        · omega
        · omega
        · have := k4.aff k1
          rw [k2, hx] at this
          exact k d.y (by omega) this
    have HAt : Hid (∀ W, Tab W → Calls Tryd.prog 38 #[.agg #[.func (.func 54) #[.agg #[.int .i64 P, .int .i64 A, .int .i64 B, .int .i64 N, .int .i64 gx, .int .i64 gy]] #[], .func (.func 55) #[.agg #[.int .i64 P, .int .i64 A, .int .i64 B, .int .i64 N, .int .i64 gx, .int .i64 gy]] #[], .func (.func 56) #[.agg #[.int .i64 P, .int .i64 A, .int .i64 B, .int .i64 N, .int .i64 gx, .int .i64 gy]] #[], .func (.func 57) #[.agg #[.int .i64 P, .int .i64 A, .int .i64 B, .int .i64 N, .int .i64 gx, .int .i64 gy]] #[]], .int .i64 x, .int .i64 1] W fun r w' => r = .returned (.tuple #[.agg #[.int .i64 c.x, .int .i64 c.y, .bool c.far], .bool ok]) ∧ Below W.heap.size W w') := fun W hW => at_at P A B N gx gy x 1 c ok hA W hW Hc.out.num (by omega)
    have HX : Hid (∀ W, BSeg W (some ⟨b, off, none⟩) b off 4 f → Calls Tryd.prog 39 #[.slice (some ⟨b, off + 1, none⟩) 3 (cap - 1)] W fun r w' => r = .returned (.int .i64 x) ∧ Below W.heap.size W w') := fun W h => by
      have := readHigh_any b (off + 1) (cap - 1) (fun i => f (1 + i)) W (h.drop 1 3 (by omega)) (fun i hi => hr _ (by omega))
      rwa [show rd3 (fun i => f (1 + i)) 0 = x from hx] at this
    have hcl := HS3.out.cell 0 (by omega)
    obtain rfl := hs.at' (by omega)
    rw [Nat.add_zero, h0] at hcl
    obtain ⟨o1, eo1⟩ : ∃ o, off + 1 = o := ⟨_, rfl⟩
    obtain ⟨p1, ep1⟩ : ∃ o, cap - 1 = o := ⟨_, rfl⟩
    rw [eo1, ep1] at HX
    have h4c : (4 : Int) ≤ (cap : Int) := by omega
    have hc1 : ¬ cap = 1 := by omega
    have e0 := cell_regrown k0
    have e1 := cell_regrown k1
    have e2 := cell_regrown k2
    have e3 := cell_regrown k3
    clear hA hx h0 hs hr
    go_wp2
    refine region_heads_tail 7 (by kernel_rfl) (by kernel_rfl) (fun _ _ d _ _ h => by cases d <;> exact h) ?_
    repeat (refine headS_step (fun K hK => ?_); go_simp; first | (refine hK _ ?_; clear hK K) | (apply Exists.intro; refine ⟨fun _ => ?_, hK _ ?_⟩; (first | (go_at_call_of 39 (p1); exact calls_head (HX.out _ (HS3.out.of_all (below_regrown _ _ _)))) | (go_at_call_of 38 (x); exact calls_head (HAt.out _ (HT3.out.all (below_regrown _ _ _))))); clear hK K))
    refine headS_nil ?_
    intro w5 hw5
    simp only [List.drop_succ_cons, List.drop_zero]
    clear eo1 ep1 h4c hc1 HX HAt
    clear e0 e1 e2 e3
    have F5 := HF3.out.call hw5
    have HF5 := hide F5
    clear k0 k1 k2 k3 a0 a1 a2 b0 b1 b2 HF3 hw5 hcl
    obtain ⟨-, ⟨a0, a1, a2, b0, b1, b2⟩, -, -⟩ := F5
    simp only [zeroP] at a0 a1 a2
    go_wp2
    refine bodyPost_ret (v := .tuple #[.agg #[.int .i64 c.x, .int .i64 c.y, .bool c.far], .bool ok]) (by simp [results, Tryd.results18, go_sem, a0, a1, a2]) rfl ⟨HG.out, ?_⟩
    exact HF5.out.put c
  by_cases c7 : n = 7 ∧ f 0 = 4
  · obtain ⟨rfl, h0⟩ := c7
    obtain ⟨x, hx⟩ : ∃ x, rd3 f 1 = x := ⟨_, rfl⟩
    obtain ⟨y, hy⟩ : ∃ y, rd3 f 4 = y := ⟨_, rfl⟩
    obtain ⟨c, ok, hA⟩ := optKn_some P A B ⟨x, y, false⟩
    have HG : Hid (GivesRd P A B N gx gy 7 f (.returned (.tuple #[.agg #[.int .i64 c.x, .int .i64 c.y, .bool c.far], .bool ok]))) := by
      refine ⟨c, ok, rfl, ?_⟩
      rcases hA with ⟨rfl, k, rfl⟩ | ⟨rfl, k, rfl⟩
      · exact Or.inl ⟨rfl, Hc.out, Or.inr (Or.inl ⟨rfl, h0, by rw [hx, hy], k⟩)⟩
      · refine Or.inr ⟨rfl, fun d v hd => ?_, rfl⟩
        rcases hd with ⟨e, _⟩ | ⟨_, _, rfl, hd⟩ | ⟨e, _⟩
        · omega
        · rw [hx, hy] at hd
          exact k hd
        · omega
    have HK : Hid (∀ W, Calls Tryd.prog 40 #[.agg #[.func (.func 54) #[.agg #[.int .i64 P, .int .i64 A, .int .i64 B, .int .i64 N, .int .i64 gx, .int .i64 gy]] #[], .func (.func 55) #[.agg #[.int .i64 P, .int .i64 A, .int .i64 B, .int .i64 N, .int .i64 gx, .int .i64 gy]] #[], .func (.func 56) #[.agg #[.int .i64 P, .int .i64 A, .int .i64 B, .int .i64 N, .int .i64 gx, .int .i64 gy]] #[], .func (.func 57) #[.agg #[.int .i64 P, .int .i64 A, .int .i64 B, .int .i64 N, .int .i64 gx, .int .i64 gy]] #[]], .agg #[.int .i64 x, .int .i64 y, .bool false]] W fun r w' => r = .returned (.tuple #[.agg #[.int .i64 c.x, .int .i64 c.y, .bool c.far], .bool ok]) ∧ Below W.heap.size W w') := fun W => known_any P A B N gx gy ⟨x, y, false⟩ c ok W Hc.out.num hA
    have HX : Hid (∀ W, BSeg W (some ⟨b, off, none⟩) b off 7 f → Calls Tryd.prog 39 #[.slice (some ⟨b, off + 1, none⟩) 3 (cap - 1)] W fun r w' => r = .returned (.int .i64 x) ∧ Below W.heap.size W w') := fun W h => by
      have := readHigh_any b (off + 1) (cap - 1) (fun i => f (1 + i)) W (h.drop 1 3 (by omega)) (fun i hi => hr _ (by omega))
      rwa [show rd3 (fun i => f (1 + i)) 0 = x from hx] at this
    have HY : Hid (∀ W, BSeg W (some ⟨b, off, none⟩) b off 7 f → Calls Tryd.prog 39 #[.slice (some ⟨b, off + 4, none⟩) 3 (cap - 4)] W fun r w' => r = .returned (.int .i64 y) ∧ Below W.heap.size W w') := fun W h => by
      have := readHigh_any b (off + 4) (cap - 4) (fun i => f (4 + i)) W (h.drop 4 3 (by omega)) (fun i hi => hr _ (by omega))
      rwa [show rd3 (fun i => f (4 + i)) 0 = y from hy] at this
    have hcl := HS3.out.cell 0 (by omega)
    obtain rfl := hs.at' (by omega)
    rw [Nat.add_zero, h0] at hcl
    obtain ⟨o1, eo1⟩ : ∃ o, off + 1 = o := ⟨_, rfl⟩
    obtain ⟨p1, ep1⟩ : ∃ o, cap - 1 = o := ⟨_, rfl⟩
    obtain ⟨o4, eo4⟩ : ∃ o, off + 4 = o := ⟨_, rfl⟩
    obtain ⟨p4, ep4⟩ : ∃ o, cap - 4 = o := ⟨_, rfl⟩
    rw [eo1, ep1] at HX
    rw [eo4, ep4] at HY
    have h4c : (4 : Int) ≤ (cap : Int) := by omega
    have h7c : (7 : Int) ≤ (cap : Int) := by omega
    have hc1 : ¬ cap = 1 := by omega
    have hc4 : ¬ cap = 4 := by omega
    have e0 := cell_regrown k0
    have e1 := cell_regrown k1
    have e2 := cell_regrown k2
    have e3 := cell_regrown k3
    clear hA hx hy h0 hs hr
    go_wp2
    refine region_heads_tail 11 (by kernel_rfl) (by kernel_rfl) (fun _ _ d _ _ h => by cases d <;> exact h) ?_
    repeat (refine headS_step (fun K hK => ?_); go_simp; first | (refine hK _ ?_; clear hK K) | (apply Exists.intro; refine ⟨fun _ => ?_, hK _ ?_⟩; (first | (go_at_call_of 39 (p1); exact calls_head (HX.out _ (HS3.out.of_all (below_regrown _ _ _)))) | (go_at_call_of 39 (p4); exact calls_head (HY.out _ (HS3.out.of_all (below_regrown _ _ _)))) | (go_at_call_of 40 (x); exact calls_head (HK.out _))); clear hK K))
    refine headS_nil ?_
    intro w5 hw5
    simp only [List.drop_succ_cons, List.drop_zero]
    clear eo1 ep1 eo4 ep4 h4c h7c hc1 hc4 HX HY HK
    clear e0 e1 e2 e3
    have F5 := HF3.out.call hw5
    have HF5 := hide F5
    clear k0 k1 k2 k3 a0 a1 a2 b0 b1 b2 HF3 hw5 hcl
    obtain ⟨-, ⟨a0, a1, a2, b0, b1, b2⟩, -, -⟩ := F5
    simp only [zeroP] at a0 a1 a2
    go_wp2
    refine bodyPost_ret (v := .tuple #[.agg #[.int .i64 c.x, .int .i64 c.y, .bool c.far], .bool ok]) (by simp [results, Tryd.results18, go_sem, a0, a1, a2]) rfl ⟨HG.out, ?_⟩
    exact HF5.out.put c
  have Hn : Hid (GivesRd P A B N gx gy n f (.returned (.tuple #[.agg #[.int .i64 0, .int .i64 0, .bool false], .bool false]))) := givesRd_no (fun c v h => by
    rcases h with ⟨e, e', _⟩ | ⟨e, e', _⟩ | ⟨e, e', _⟩
    · exact c1 ⟨e, e'⟩
    · exact c7 ⟨e, e'⟩
    · rcases e' with e' | e'
      · exact c4 ⟨e, e'⟩
      · exact c5 ⟨e, e'⟩)
  have hcl := HS3.out.cell 0 (by omega)
  obtain rfl := hs.at' (by omega)
  rw [Nat.add_zero] at hcl
  by_cases d0 : f 0 = 0
  · rw [d0] at hcl
    have n1 : ((n : Int) == 1) = false := by simp; exact fun e => c1 ⟨by omega, d0⟩
    clear c1 c4 c5 c7 d0 hs hr
    skip
    go_wp2
    refine bodyPost_ret (v := .tuple #[.agg #[.int .i64 0, .int .i64 0, .bool false], .bool false]) (by simp [results, Tryd.results18, go_sem, a0, a1, a2]) rfl ⟨Hn.out, ?_⟩
    exact HF3.out.put zeroP
  by_cases d2 : f 0 = 2
  · rw [d2] at hcl
    have n1 : ((n : Int) == 4) = false := by simp; exact fun e => c4 ⟨by omega, d2⟩
    clear c1 c4 c5 c7 d0 d2 hs hr
    skip
    go_wp2
    refine bodyPost_ret (v := .tuple #[.agg #[.int .i64 0, .int .i64 0, .bool false], .bool false]) (by simp [results, Tryd.results18, go_sem, a0, a1, a2]) rfl ⟨Hn.out, ?_⟩
    exact HF3.out.put zeroP
  by_cases d3 : f 0 = 3
  · rw [d3] at hcl
    have n1 : ((n : Int) == 4) = false := by simp; exact fun e => c5 ⟨by omega, d3⟩
    clear c1 c4 c5 c7 d0 d2 d3 hs hr
    skip
    go_wp2
    refine bodyPost_ret (v := .tuple #[.agg #[.int .i64 0, .int .i64 0, .bool false], .bool false]) (by simp [results, Tryd.results18, go_sem, a0, a1, a2]) rfl ⟨Hn.out, ?_⟩
    exact HF3.out.put zeroP
  by_cases d4 : f 0 = 4
  · rw [d4] at hcl
    have n1 : ((n : Int) == 7) = false := by simp; exact fun e => c7 ⟨by omega, d4⟩
    clear c1 c4 c5 c7 d0 d2 d3 d4 hs hr
    skip
    go_wp2
    refine bodyPost_ret (v := .tuple #[.agg #[.int .i64 0, .int .i64 0, .bool false], .bool false]) (by simp [results, Tryd.results18, go_sem, a0, a1, a2]) rfl ⟨Hn.out, ?_⟩
    exact HF3.out.put zeroP
  · have q0 : (f 0 == 0) = false := by simpa using d0
    have q2 : (f 0 == 2) = false := by simpa using d2
    have q3 : (f 0 == 3) = false := by simpa using d3
    have q4 : (f 0 == 4) = false := by simpa using d4
    generalize f 0 = x at hcl q0 q2 q3 q4
    clear c1 c4 c5 c7 d0 d2 d3 d4 hs hr
    skip
    go_wp2
    refine bodyPost_ret (v := .tuple #[.agg #[.int .i64 0, .int .i64 0, .bool false], .bool false]) (by simp [results, Tryd.results18, go_sem, a0, a1, a2]) rfl ⟨Hn.out, ?_⟩
    exact HF3.out.put zeroP

end Go.Proofs.YtnhemiaklkkilaaDoor
