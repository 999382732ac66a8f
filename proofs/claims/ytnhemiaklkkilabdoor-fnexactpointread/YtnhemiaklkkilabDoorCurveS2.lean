/- Walks: a point read of bytes by the model. -/
import Derived.Test.YtnhemiaklkkilabDoorCurveT
import Derived.Test.YtnhemiaklkkilabDoorCurveP
import Derived.Test.YtnhemiaklkkilabDoorCurveY
import Derived.Test.YtnhemiaklkkilabDoorPowInt
namespace Go.Proofs.YtnhemiaklkkilabDoor
set_option linter.unusedVariables false
set_option linter.unusedSimpArgs false
open Go.RowKit Go.Sort

theorem givesRd_no {P A B N gx gy : Int} {n : Nat} {f : Nat → Int} (h : ∀ c, CvOk P A B N gx gy → ¬ Reads P.toNat A B n f c) : GivesRd P A B N gx gy n f (.returned (.tuple #[.agg #[.int .i64 0, .int .i64 0, .bool false], .bool false])) := ⟨zeroP, false, rfl, Or.inr ⟨rfl, h, rfl⟩⟩
theorem givesRd_yes {P A B N gx gy : Int} {n : Nat} {f : Nat → Int} {c : Pt} (v : CvOk P A B N gx gy) (h : Reads P.toNat A B n f c) : GivesRd P A B N gx gy n f (.returned (.tuple #[.agg #[.int .i64 c.x, .int .i64 c.y, .bool c.far], .bool true])) := ⟨c, true, rfl, Or.inl ⟨rfl, v, h⟩⟩

theorem BSeg.drop {w : World} {a : Option Addr} {b off n : Nat} {f : Nat → Int} (h : BSeg w a b off n f) (k m : Nat) (hk : k + m ≤ n) : BSeg w (some ⟨b, off + k, none⟩) b (off + k) m (fun i => f (k + i)) :=
  ⟨fun _ => rfl, fun i hi => by rw [Nat.add_assoc]; exact h.cell (k + i) (by omega)⟩

theorem below_drawn' {w w' : World} (h : Drawn w w') : Below w.heap.size w w' := by
  obtain ⟨q, rfl⟩ := h
  exact below_drewN (Below.refl _ _) q

theorem l2Pow_at (S E P : Int) (w : World) (s0 : 0 ≤ S) (s1 : S ≤ 9223372036854775807) (e0 : 0 ≤ E) (e1 : E ≤ 9223372036854775807) (p0 : 0 < P) (p1 : P ≤ 1073741824) :
    Calls Tryd.prog 47 #[.int .i64 S, .int .i64 E, .int .i64 P] w fun r w' => r = .returned (.int .i64 ((S.toNat ^ E.toNat % P.toNat : Nat) : Int)) ∧ Below w.heap.size w w' := by
  have := l2Pow_any S.toNat E.toNat P.toNat w (by omega) (by omega) (by omega) (by omega)
  rw [show ((S.toNat : Nat) : Int) = S by omega, show ((E.toNat : Nat) : Int) = E by omega, show ((P.toNat : Nat) : Int) = P by omega] at this
  exact this.mono fun e w' h => ⟨h.1, below_drawn' h.2⟩

set_option maxHeartbeats 1600000 in
set_option maxRecDepth 100000 in
theorem l3Point_none (P A B N gx gy : Int) (a : Option Addr) (b off n cap : Nat) (f : Nat → Int) (w : World) (hs : BSeg w a b off n f) (h1 : n = 1 → f 0 ≠ 0) (h7 : n = 7 → f 0 ≠ 4) (h4 : n = 4 → f 0 ≠ 2 ∧ f 0 ≠ 3) :
    Calls Tryd.prog 32 #[.agg #[.int .i64 P, .int .i64 A, .int .i64 B, .int .i64 N, .int .i64 gx, .int .i64 gy], .slice a n cap] w fun r w' => GivesRd P A B N gx gy n f r ∧ Below w.heap.size w w' := by
  have Hn : Hid (GivesRd P A B N gx gy n f (.returned (.tuple #[.agg #[.int .i64 0, .int .i64 0, .bool false], .bool false]))) := givesRd_no (fun c v h => by
    rcases h with ⟨e, e', _⟩ | ⟨e, e', _⟩ | ⟨e, e', _⟩
    · exact h1 e e'
    · exact h7 e e'
    · have := h4 e; omega)
  have F0 : Fr2 w (((w.alloc (.cells #[.int .i64 P, .int .i64 A, .int .i64 B, .int .i64 N, .int .i64 gx, .int .i64 gy] 29)).alloc (.cells #[.int .i64 0, .int .i64 0, .bool false] 26)).alloc (.cells #[.int .i64 0, .int .i64 0, .bool false] 26)) P A B N gx gy zeroP zeroP := Fr2.box w P A B N gx gy zeroP zeroP 29 26 26
  have HF := hide F0
  obtain ⟨⟨k0, k1, k2, k3, k4, k5⟩, ⟨a0, a1, a2, b0, b1, b2⟩, ⟨r0, r1, r2, q0, q1, q2⟩, -, -⟩ := F0
  simp only [zeroP] at a0 a1 a2 r0 r1 r2
  clear k0 k1 k2 k3 k4 k5
  by_cases c1 : n = 1
  · subst c1
    have hx : (f 0 == 0) = false := by simpa using h1 rfl
    clear h1 h7 h4
    have hb := hs.lt (by omega)
    have hc := (hs.of_all HF.out.below).cell 0 (by omega)
    obtain rfl := hs.at' (by omega)
    rw [Nat.add_zero] at hc
    clear hs
    generalize f 0 = x at *
    go_enter Tryd.func32, Tryd.ntmps32
    go_wp2
    refine bodyPost_ret (v := .tuple #[.agg #[.int .i64 0, .int .i64 0, .bool false], .bool false]) (by simp [results, Tryd.results32, go_sem, a0, a1, a2, r0, r1, r2]) rfl ⟨Hn.out, HF.out.below⟩
  by_cases c7 : n = 7
  · subst c7
    have hx : (f 0 == 4) = false := by simpa using h7 rfl
    clear h1 h7 h4 c1
    have hb := hs.lt (by omega)
    have hc := (hs.of_all HF.out.below).cell 0 (by omega)
    obtain rfl := hs.at' (by omega)
    rw [Nat.add_zero] at hc
    clear hs
    generalize f 0 = x at *
    go_enter Tryd.func32, Tryd.ntmps32
    go_wp2
    refine bodyPost_ret (v := .tuple #[.agg #[.int .i64 0, .int .i64 0, .bool false], .bool false]) (by simp [results, Tryd.results32, go_sem, a0, a1, a2, r0, r1, r2]) rfl ⟨Hn.out, HF.out.below⟩
  by_cases c4 : n = 4
  · subst c4
    have hx : (f 0 == 2) = false := by simpa using (h4 rfl).1
    have hx3 : (f 0 == 3) = false := by simpa using (h4 rfl).2
    clear h1 h7 h4 c1 c7
    have hb := hs.lt (by omega)
    have hc := (hs.of_all HF.out.below).cell 0 (by omega)
    obtain rfl := hs.at' (by omega)
    rw [Nat.add_zero] at hc
    clear hs
    generalize f 0 = x at *
    go_enter Tryd.func32, Tryd.ntmps32
    go_wp2
    refine bodyPost_ret (v := .tuple #[.agg #[.int .i64 0, .int .i64 0, .bool false], .bool false]) (by simp [results, Tryd.results32, go_sem, a0, a1, a2, r0, r1, r2]) rfl ⟨Hn.out, HF.out.below⟩
  have n1 : ((n : Int) == 1) = false := by simp; omega
  have n7 : ((n : Int) == 7) = false := by simp; omega
  have n4 : ((n : Int) == 4) = false := by simp; omega
  clear c1 c7 c4 h1 h7 h4 hs
  go_enter Tryd.func32, Tryd.ntmps32
  go_wp2
  refine bodyPost_ret (v := .tuple #[.agg #[.int .i64 0, .int .i64 0, .bool false], .bool false]) (by simp [results, Tryd.results32, go_sem, a0, a1, a2, r0, r1, r2]) rfl ⟨Hn.out, HF.out.below⟩

set_option maxHeartbeats 1600000 in
set_option maxRecDepth 100000 in
theorem l3Point_far (P A B N gx gy : Int) (a : Option Addr) (b off n cap : Nat) (f : Nat → Int) (w : World) (hc : CvOk P A B N gx gy) (hs : BSeg w a b off n f) (hn : n = 1) (h0 : f 0 = 0) :
    Calls Tryd.prog 32 #[.agg #[.int .i64 P, .int .i64 A, .int .i64 B, .int .i64 N, .int .i64 gx, .int .i64 gy], .slice a n cap] w fun r w' => GivesRd P A B N gx gy n f r ∧ Below w.heap.size w w' := by
  have HY : Hid (GivesRd P A B N gx gy n f (.returned (.tuple #[.agg #[.int .i64 farP.x, .int .i64 farP.y, .bool farP.far], .bool true]))) := givesRd_yes hc (Or.inl ⟨hn, h0, rfl⟩)
  have F0 : Fr2 w (((w.alloc (.cells #[.int .i64 P, .int .i64 A, .int .i64 B, .int .i64 N, .int .i64 gx, .int .i64 gy] 29)).alloc (.cells #[.int .i64 0, .int .i64 0, .bool false] 26)).alloc (.cells #[.int .i64 0, .int .i64 0, .bool false] 26)) P A B N gx gy zeroP zeroP := Fr2.box w P A B N gx gy zeroP zeroP 29 26 26
  have HF := hide F0
  obtain ⟨⟨k0, k1, k2, k3, k4, k5⟩, ⟨a0, a1, a2, b0, b1, b2⟩, ⟨r0, r1, r2, q0, q1, q2⟩, -, -⟩ := F0
  simp only [zeroP] at a0 a1 a2 r0 r1 r2
  clear k0 k1 k2 k3 k4 k5
  have hb := hs.lt (by omega)
  have hx := (hs.of_all HF.out.below).cell 0 (by omega)
  obtain rfl := hs.at' (by omega)
  rw [Nat.add_zero, h0] at hx
  subst hn
  clear hs h0 hc
  go_enter Tryd.func32, Tryd.ntmps32
  go_wp2
  refine bodyPost_ret (v := .tuple #[.agg #[.int .i64 0, .int .i64 0, .bool true], .bool true]) (by simp [results, Tryd.results32, go_sem]) rfl ⟨HY.out, ?_⟩
  repeat (first | exact Below.refl _ _ | refine Below.setCell ?_ (by simp <;> omega) _ | refine Below.alloc ?_ (by simp <;> omega) _)

set_option maxHeartbeats 1600000 in
set_option maxRecDepth 100000 in
theorem l3Point_long (P A B N gx gy : Int) (a : Option Addr) (b off n cap : Nat) (f : Nat → Int) (w : World) (hc : CvOk P A B N gx gy) (hs : BSeg w a b off n f) (hr : ∀ i, i < n → 0 ≤ f i ∧ f i ≤ 255) (hcap : n ≤ cap) (hn : n = 7) (h0 : f 0 = 4) :
    Calls Tryd.prog 32 #[.agg #[.int .i64 P, .int .i64 A, .int .i64 B, .int .i64 N, .int .i64 gx, .int .i64 gy], .slice a n cap] w fun r w' => GivesRd P A B N gx gy n f r ∧ Below w.heap.size w w' := by
  subst hn
  obtain ⟨x, hx⟩ : ∃ x, rd3 f 1 = x := ⟨_, rfl⟩
  obtain ⟨y, hy⟩ : ∃ y, rd3 f 4 = y := ⟨_, rfl⟩
  have F0 : Fr2 w (((w.alloc (.cells #[.int .i64 P, .int .i64 A, .int .i64 B, .int .i64 N, .int .i64 gx, .int .i64 gy] 29)).alloc (.cells #[.int .i64 0, .int .i64 0, .bool false] 26)).alloc (.cells #[.int .i64 0, .int .i64 0, .bool false] 26)) P A B N gx gy zeroP zeroP := Fr2.box w P A B N gx gy zeroP zeroP 29 26 26
  have HF := hide F0
  obtain ⟨⟨k0, k1, k2, k3, k4, k5⟩, ⟨a0, a1, a2, b0, b1, b2⟩, ⟨r0, r1, r2, q0, q1, q2⟩, -, -⟩ := F0
  simp only [zeroP] at a0 a1 a2 r0 r1 r2
  have hb := hs.lt (by omega)
  have hs0 := hs.of_all HF.out.below
  have hcl := hs0.cell 0 (by omega)
  obtain rfl := hs.at' (by omega)
  rw [Nat.add_zero, h0] at hcl
  have HX : Hid (∀ W, BSeg W (some ⟨b, off, none⟩) b off 7 f → Calls Tryd.prog 46 #[.slice (some ⟨b, off + 1, none⟩) 3 (cap - 1)] W fun r w' => r = .returned (.int .i64 x) ∧ Below W.heap.size W w') := fun W h => by
    have := l3Read_any b (off + 1) (cap - 1) (fun i => f (1 + i)) W (h.drop 1 3 (by omega)) (fun i hi => hr _ (by omega))
    rwa [show rd3 (fun i => f (1 + i)) 0 = x from hx] at this
  have HY : Hid (∀ W, BSeg W (some ⟨b, off, none⟩) b off 7 f → Calls Tryd.prog 46 #[.slice (some ⟨b, off + 4, none⟩) 3 (cap - 4)] W fun r w' => r = .returned (.int .i64 y) ∧ Below W.heap.size W w') := fun W h => by
    have := l3Read_any b (off + 4) (cap - 4) (fun i => f (4 + i)) W (h.drop 4 3 (by omega)) (fun i hi => hr _ (by omega))
    rwa [show rd3 (fun i => f (4 + i)) 0 = y from hy] at this
  have HR : Hid (Reads P.toNat A B 7 f ⟨x, y, false⟩ ↔ On P.toNat A B ⟨x, y, false⟩) := by
    constructor
    · rintro (⟨e, _⟩ | ⟨_, _, _, h⟩ | ⟨e, _⟩)
      · omega
      · exact h
      · omega
    · intro h
      exact Or.inr (Or.inl ⟨rfl, h0, by rw [hx, hy], h⟩)
  have HU : Hid (∀ c, Reads P.toNat A B 7 f c → c = ⟨x, y, false⟩) := by
    rintro c (⟨e, _⟩ | ⟨_, _, rfl, _⟩ | ⟨e, _⟩)
    · omega
    · rw [hx, hy]
    · omega
  have HS := hide hs0
  have Hc := hide hc
  clear hs hs0 hr h0 hx hy hc
  obtain ⟨o1, eo1⟩ : ∃ o, off + 1 = o := ⟨_, rfl⟩
  obtain ⟨o4, eo4⟩ : ∃ o, off + 4 = o := ⟨_, rfl⟩
  obtain ⟨p1, ep1⟩ : ∃ o, cap - 1 = o := ⟨_, rfl⟩
  obtain ⟨p4, ep4⟩ : ∃ o, cap - 4 = o := ⟨_, rfl⟩
  rw [eo1, ep1] at HX
  rw [eo4, ep4] at HY
  go_enter Tryd.func32, Tryd.ntmps32
  go_wp2
  have h4c : (4 : Int) ≤ (cap : Int) := by omega
  have h7c : (7 : Int) ≤ (cap : Int) := by omega
  have hc1 : ¬ cap = 1 := by omega
  have hc4 : ¬ cap = 4 := by omega
  refine anyW_begin 9 rfl (by kernel_rfl) ?_
  refine anyW_take 0 7 2 rfl (by decide) (by kernel_rfl) (fun _ _ d _ _ h => by cases d <;> exact h) ?_
  repeat (refine headS_step (fun K hK => ?_); go_simp; first | (refine hK _ ?_; clear hK K) | (apply Exists.intro; refine ⟨fun _ => ?_, hK _ ?_⟩; (first | (go_at_call_of 46 (p1); exact calls_head (HX.out _ (HS.out.of_all (below_regrown _ _ _)))) | (go_at_call_of 46 (p4); exact calls_head (HY.out _ (HS.out.of_all (below_regrown _ _ _))))); clear hK K))
  refine headS_nil ?_
  clear h4c h7c hc1 hc4 HX HY hcl eo1 eo4 ep1 ep4
  refine anyW_one 7 (by kernel_rfl) ?_
  refine stepW_run rfl ?_
  intro w2 hw2 K hK
  go_simp
  refine hK _ _ (Below.alloc hw2 (Below.size hw2) _) ?_
  clear hK K
  refine anyW_one 8 (by kernel_rfl) ?_
  refine stepW_run rfl ?_
  intro w3 hw3 K hK
  have T3 := PtAt.below (PtAt.alloc w2 zeroP 26) hw3 (by simp)
  obtain ⟨t0, t1, t2, v0, v1, v2⟩ := T3
  simp only [zeroP] at t0 t1 t2
  go_simp
  refine hK _ (putPt w3 w2.heap.size ⟨x, y, false⟩) (below_put (C := w2.heap.size) (Ext.trans (Below.alloc hw2 (Below.size hw2) _) hw3) (Below.size hw2) ⟨x, y, false⟩) ?_
  clear hK K t0 t1 t2 v0 v1 v2
  refine anyW_done (by kernel_rfl) ?_ 0
  intro w5 hw5
  have E := tail_pt (c := ⟨x, y, false⟩) hw2 hw3 hw5 (Ext.refl w5)
  obtain ⟨X5, T5, s5, s6⟩ := E
  clear hw2 hw3 hw5
  generalize w2.heap.size = S at *
  clear w2 w3 k0 k1 k2 k3 k4 k5 a0 a1 a2 b0 b1 b2 r0 r1 r2 q0 q1 q2
  have F5 := HF.out.call X5
  have HF5 := hide F5
  have HZ : Hid (w.heap.size + 3 ≤ S) := Nat.le_trans HF.out.big s5
  have HT := hide T5
  clear HF s5 X5
  obtain ⟨⟨k0, k1, k2, k3, k4, k5⟩, -, -, -, -⟩ := F5
  obtain ⟨t0, t1, t2, -, -, -⟩ := T5
  go_wp2_with fail
  refine (l3On_ok Hc.out ⟨x, y, false⟩ _).mono ?_
  rintro r w6 ⟨⟨ok, rfl, ho⟩, hw6⟩
  have F6 := HF5.out.call hw6
  have T6 := HT.out.below hw6 (by omega)
  have HF6 := hide F6
  clear k0 k1 k2 k3 k4 k5 t0 t1 t2 HF5 HT hw6
  obtain ⟨-, ⟨a0, a1, a2, b0, b1, b2⟩, ⟨r0, r1, r2, -, -, -⟩, -, -⟩ := F6
  obtain ⟨t0, t1, t2, -, -, -⟩ := T6
  simp only [zeroP] at a0 a1 a2 r0 r1 r2 t0 t1 t2
  cases ok
  · have Hn : Hid (GivesRd P A B N gx gy 7 f (.returned (.tuple #[.agg #[.int .i64 0, .int .i64 0, .bool false], .bool false]))) := givesRd_no (fun c v h => by
      have e := HU.out c h
      subst e
      have := ho.2 (HR.out.1 h)
      simp at this)
    clear ho HU HR
    go_wp2
    refine bodyPost_ret (v := .tuple #[.agg #[.int .i64 0, .int .i64 0, .bool false], .bool false]) (by simp [results, Tryd.results32, go_sem, a0, a1, a2, r0, r1, r2]) rfl ⟨Hn.out, ?_⟩
    exact below_put HF6.out.below (C := w.heap.size + 1) (by omega) zeroP
  · have HY : Hid (GivesRd P A B N gx gy 7 f (.returned (.tuple #[.agg #[.int .i64 x, .int .i64 y, .bool false], .bool true]))) := givesRd_yes (c := ⟨x, y, false⟩) Hc.out (HR.out.2 (ho.1 rfl))
    clear ho HU HR
    go_wp2
    refine bodyPost_ret (v := .tuple #[.agg #[.int .i64 x, .int .i64 y, .bool false], .bool true]) (by simp [results, Tryd.results32, go_sem, a0, a1, a2]) rfl ⟨HY.out, ?_⟩
    exact below_put HF6.out.below (C := w.heap.size + 1) (by omega) ⟨x, y, false⟩

end Go.Proofs.YtnhemiaklkkilabDoor
