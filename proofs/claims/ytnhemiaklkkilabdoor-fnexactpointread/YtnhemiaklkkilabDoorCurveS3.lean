/- Walks: a point read of four bytes by the model. -/
import Derived.Test.YtnhemiaklkkilabDoorCurveS2
namespace Go.Proofs.YtnhemiaklkkilabDoor
set_option linter.unusedVariables false
set_option linter.unusedSimpArgs false
open Go.RowKit Go.Sort

set_option maxHeartbeats 1600000 in
set_option maxRecDepth 100000 in
theorem l3Point_two (P A B N gx gy : Int) (a : Option Addr) (b off n cap : Nat) (f : Nat → Int) (w : World) (hc : CvOk P A B N gx gy) (hs : BSeg w a b off n f) (hr : ∀ i, i < n → 0 ≤ f i ∧ f i ≤ 255) (hcap : n ≤ cap) (hn : n = 4) (h0 : f 0 = 2) :
    Calls Tryd.prog 32 #[.agg #[.int .i64 P, .int .i64 A, .int .i64 B, .int .i64 N, .int .i64 gx, .int .i64 gy], .slice a n cap] w fun r w' => GivesRd P A B N gx gy n f r ∧ Below w.heap.size w w' := by
  subst hn
  obtain ⟨x, hx⟩ : ∃ x, rd3 f 1 = x := ⟨_, rfl⟩
  have F0 : Fr2 w (((w.alloc (.cells #[.int .i64 P, .int .i64 A, .int .i64 B, .int .i64 N, .int .i64 gx, .int .i64 gy] 29)).alloc (.cells #[.int .i64 0, .int .i64 0, .bool false] 26)).alloc (.cells #[.int .i64 0, .int .i64 0, .bool false] 26)) P A B N gx gy zeroP zeroP := Fr2.box w P A B N gx gy zeroP zeroP 29 26 26
  have HF := hide F0
  obtain ⟨⟨k0, k1, k2, k3, k4, k5⟩, ⟨a0, a1, a2, b0, b1, b2⟩, ⟨r0, r1, r2, q0, q1, q2⟩, -, -⟩ := F0
  simp only [zeroP] at a0 a1 a2 r0 r1 r2
  have hb := hs.lt (by omega)
  have hs0 := hs.of_all HF.out.below
  have hcl := hs0.cell 0 (by omega)
  obtain rfl := hs.at' (by omega)
  rw [Nat.add_zero, h0] at hcl
  have HX : Hid (∀ W, BSeg W (some ⟨b, off, none⟩) b off 4 f → Calls Tryd.prog 46 #[.slice (some ⟨b, off + 1, none⟩) 3 (cap - 1)] W fun r w' => r = .returned (.int .i64 x) ∧ Below W.heap.size W w') := fun W h => by
    have := l3Read_any b (off + 1) (cap - 1) (fun i => f (1 + i)) W (h.drop 1 3 (by omega)) (fun i hi => hr _ (by omega))
    rwa [show rd3 (fun i => f (1 + i)) 0 = x from hx] at this
  have HY : Hid (∀ y, On P.toNat A B ⟨x, y, false⟩ → y % 2 = 0 → GivesRd P A B N gx gy 4 f (.returned (.tuple #[.agg #[.int .i64 x, .int .i64 y, .bool false], .bool true]))) := fun y h k =>
    givesRd_yes (c := ⟨x, y, false⟩) hc (Or.inr (Or.inr ⟨rfl, by omega, rfl, hx.symm, by rw [k, h0]; rfl, h⟩))
  have HN : Hid ((∀ z, z % 2 = 0 → ¬ Aff P.toNat A B x z) → GivesRd P A B N gx gy 4 f (.returned (.tuple #[.agg #[.int .i64 0, .int .i64 0, .bool false], .bool false]))) := fun h => givesRd_no (fun c v k => by
    rcases k with ⟨e, _⟩ | ⟨e, _⟩ | ⟨_, _, k1, k2, k3, k4⟩
    · omega
    · omega
    · have := k4.aff k1
      rw [k2, hx] at this
      exact h c.y (by omega) this)
  obtain ⟨x0, x1⟩ : 0 ≤ x ∧ x ≤ 16777215 := by rw [← hx]; exact rd3_range (hr 1 (by omega)) (hr 2 (by omega)) (hr 3 (by omega))
  have HS := hide hs0
  have Hc := hide hc
  have H0 := hide h0
  clear hs hs0 hr h0 hx hc
  have h4c : (4 : Int) ≤ (cap : Int) := by omega
  have hc1 : ¬ cap = 1 := by omega
  go_enter Tryd.func32, Tryd.ntmps32
  go_wp2_with fail
  refine (HX.out _ HS.out).mono ?_
  rintro r w2 ⟨rfl, hw2⟩
  have F2 := HF.out.call hw2
  have HF2 := hide F2
  have S2 := HS.out.of_all hw2
  have HS2 := hide S2
  clear HX HF HS h4c hc1 hw2 k0 k1 k2 k3 k4 k5 a0 a1 a2 b0 b1 b2 r0 r1 r2 q0 q1 q2 hcl
  obtain ⟨⟨k0, k1, k2, k3, k4, k5⟩, ⟨a0, a1, a2, b0, b1, b2⟩, ⟨r0, r1, r2, q0, q1, q2⟩, -, -⟩ := F2
  simp only [zeroP] at a0 a1 a2 r0 r1 r2
  by_cases hxP : x < P
  rotate_left
  · have Hn := hide (HN.out (fun z _ h => by have := h.x1; have := Hc.out.p5; omega))
    have hxP' : P ≤ x := by omega
    go_wp2
    refine bodyPost_ret (v := .tuple #[.agg #[.int .i64 0, .int .i64 0, .bool false], .bool false]) (by simp [results, Tryd.results32, go_sem, a0, a1, a2, r0, r1, r2]) rfl ⟨Hn.out, ?_⟩
    exact below_put HF2.out.below (C := w.heap.size + 1) (by omega) zeroP
  have hP5 := Hc.out.p5
  have hPM := Hc.out.pM
  have hA0 := Hc.out.a0
  have hA1 := Hc.out.a1
  have hB0 := Hc.out.b0
  have hB1 := Hc.out.b1
  obtain ⟨m, hm⟩ : ∃ m, x * x % P = m := ⟨_, rfl⟩
  have m0 : 0 ≤ m := by rw [← hm]; exact Int.emod_nonneg _ (by omega)
  have m1 : m < P := by rw [← hm]; exact Int.emod_lt_of_pos _ (by omega)
  obtain ⟨u0, u1⟩ := mulBd x0 (show x ≤ 1048576 by omega) x0 (show x ≤ 1048576 by omega)
  obtain ⟨v0, v1⟩ := mulBd (x := m + A) (y := x) (p := 2097152) (q := 1048576) (by omega) (by omega) x0 (by omega)
  obtain ⟨S, hS⟩ : ∃ S, ((m + A) * x + B) % P = S := ⟨_, rfl⟩
  obtain ⟨E, hE⟩ : ∃ E, (P + 1) / 4 = E := ⟨_, rfl⟩
  have S0 : 0 ≤ S := by rw [← hS]; exact Int.emod_nonneg _ (by omega)
  have S1 : S < P := by rw [← hS]; exact Int.emod_lt_of_pos _ (by omega)
  have c1 : IntKind.i64.wrap (x * x) = x * x := wrap_small (by omega) (by omega)
  have c2 : (x * x).tmod P = m := by rw [Int.tmod_eq_emod_of_nonneg (by omega), hm]
  have c3 : IntKind.i64.wrap (m + A) = m + A := wrap_small (by omega) (by omega)
  have c4 : IntKind.i64.wrap ((m + A) * x) = (m + A) * x := wrap_small (by omega) (by omega)
  have c5 : IntKind.i64.wrap ((m + A) * x + B) = (m + A) * x + B := wrap_small (by omega) (by omega)
  have c6 : ((m + A) * x + B).tmod P = S := by rw [Int.tmod_eq_emod_of_nonneg (by omega), hS]
  have c7 : IntKind.i64.wrap (P + 1) = P + 1 := wrap_small (by omega) (by omega)
  have c8 : (P + 1).tdiv 4 = E := by rw [Int.tdiv_eq_ediv_of_nonneg (by omega), hE]
  have c9 : IntKind.i64.wrap E = E := wrap_small (by omega) (by omega)
  have hP0 : ¬ P = 0 := by omega
  have hP0' : (P == 0) = false := by simpa using hP0
  have HSq : Hid (((S.toNat : Nat) : Int) = (x * x * x + A * x + B) % P) := by
    show _ = _
    rw [Int.toNat_of_nonneg S0, ← hS, ← hm]
    refine mod_eq ?_
    obtain ⟨k, hk⟩ : P ∣ x * x % P - x * x := ⟨-(x * x / P), by have := Int.emod_add_mul_ediv (x * x) P; grind⟩
    exact ⟨k * x, by grind⟩
  obtain ⟨R, hR⟩ : ∃ R : Int, ((S.toNat ^ E.toNat % P.toNat : Nat) : Int) = R := ⟨_, rfl⟩
  have HE : Hid (E.toNat = (P.toNat + 1) / 4) := by show _ = _; omega
  have R0 : 0 ≤ R := by omega
  have R1 : R < P := by rw [← hR]; have := Nat.mod_lt (S.toNat ^ E.toNat) (show 0 < P.toNat by omega); omega
  have HP : Hid (∀ W, Calls Tryd.prog 47 #[.int .i64 S, .int .i64 E, .int .i64 P] W fun r w' => r = .returned (.int .i64 R) ∧ Below W.heap.size W w') := fun W => by
    have := l2Pow_at S E P W S0 (by omega) (by omega) (by omega) (by omega) (by omega)
    rwa [hR] at this
  have HM : Hid (∀ y, y = (if R % 2 = 0 then R else P - R) → (Aff P.toNat A B x y ∧ y % 2 = 0) ∨ ∀ z, z % 2 = 0 → ¬ Aff P.toNat A B x z) := fun y hy => by
    refine model_root Hc.out.pp Hc.out.p4 hP5 x0 hxP (by omega) HSq.out ?_
    rw [← HE.out, hR]
    exact hy
  have HP4 := hide Hc.out.p4
  have e0 := cell_regrown k0
  have e1 := cell_regrown k1
  have e2 := cell_regrown k2
  have g0 := cell_regrown a0
  clear hm hS hE hR HE HSq u0 u1 v0 v1
  go_wp2
  refine anyW_begin 25 rfl (by kernel_rfl) ?_
  refine anyW_take 0 25 0 rfl (by decide) (by kernel_rfl) (fun _ _ d _ _ h => by cases d <;> exact h) ?_
  repeat (refine headS_step (fun K hK => ?_); go_simp; first | (refine hK _ ?_; clear hK K) | (apply Exists.intro; refine ⟨fun _ => ?_, hK _ ?_⟩; ((go_at_call 47; exact calls_head (HP.out _))); clear hK K))
  refine headS_nil ?_
  refine anyW_done (by kernel_rfl) ?_ 0
  intro w3 hw3
  clear e0 e1 e2 g0 c1 c2 c3 c4 c5 c6 c7 c8 c9
  have F3 := HF2.out.call hw3
  have HF3 := hide F3
  have S3 := HS2.out.of_all hw3
  have HS3 := hide S3
  clear k0 k1 k2 k3 k4 k5 a0 a1 a2 b0 b1 b2 r0 r1 r2 q0 q1 q2 HF2 HS2 hw3 S2
  obtain ⟨⟨k0, k1, k2, k3, k4, k5⟩, ⟨a0, a1, a2, b0, b1, b2⟩, ⟨r0, r1, r2, q0, q1, q2⟩, -, -⟩ := F3
  simp only [zeroP] at a0 a1 a2 r0 r1 r2
  have hcl := S3.cell 0 (by omega)
  rw [Nat.add_zero, H0.out] at hcl
  clear S3
  by_cases hR2 : R % 2 = 0
  · skip
    have HM := HM.out R (by rw [if_pos hR2])
    have HM := hide HM
    have l := HF3.out.cv.below ((Below.refl _ _).alloc (Nat.le_refl _) (.cells #[.int .i64 x, .int .i64 R, .bool false] 26)) (by have := HF3.out.big; omega)
    obtain ⟨l0, l1, l2, l3, l4, l5⟩ := l
    go_wp2_with fail
    refine (l3On_ok Hc.out ⟨x, R, false⟩ _).mono ?_
    rintro r w6 ⟨⟨ok, rfl, ho⟩, hw6⟩
    have F6 := (HF3.out.call ((Below.refl _ _).alloc (Nat.le_refl _) (.cells #[.int .i64 x, .int .i64 R, .bool false] 26))).call hw6
    have T6 := (PtAt.alloc w3 ⟨x, R, false⟩ 26).below hw6 (by simp)
    have hcl := (HS3.out.of_all (((Below.refl _ _).alloc (Nat.le_refl _) _).trans (hw6.mono (by simp)))).cell 0 (by omega)
    rw [Nat.add_zero, H0.out] at hcl
    have HZ : Hid (w.heap.size + 3 ≤ w3.heap.size) := HF3.out.big
    have HF6 := hide F6
    clear k0 k1 k2 k3 k4 k5 l0 l1 l2 l3 l4 l5 a0 a1 a2 b0 b1 b2 r0 r1 r2 q0 q1 q2 HF3 HS3 hw6
    obtain ⟨-, ⟨a0, a1, a2, b0, b1, b2⟩, ⟨r0, r1, r2, -, -, -⟩, -, -⟩ := F6
    obtain ⟨t0, t1, t2, -, -, -⟩ := T6
    simp only [zeroP] at a0 a1 a2 r0 r1 r2 t0 t1 t2
    cases ok
    · have Hn := hide (HN.out (HM.out.resolve_left fun h => by
        have := ho.2 (Or.inr ⟨rfl, h.1⟩)
        simp at this))
      clear ho HM
      go_wp2
      refine bodyPost_ret (v := .tuple #[.agg #[.int .i64 0, .int .i64 0, .bool false], .bool false]) (by simp [results, Tryd.results32, go_sem, a0, a1, a2, r0, r1, r2]) rfl ⟨Hn.out, ?_⟩
      exact below_put HF6.out.below (C := w.heap.size + 1) (by omega) zeroP
    · have HY := hide (HY.out (R) (ho.1 rfl) (by omega))
      clear ho HM
      go_wp2
      refine bodyPost_ret (v := .tuple #[.agg #[.int .i64 x, .int .i64 R, .bool false], .bool true]) (by simp [results, Tryd.results32, go_sem, a0, a1, a2]) rfl ⟨HY.out, ?_⟩
      exact below_put HF6.out.below (C := w.heap.size + 1) (by omega) ⟨x, R, false⟩
  · have hR3 : R % 2 = 1 - 0 := by omega
    have hR4 : (P - R) % 2 = 0 := by have := HP4.out; omega
    have hR5 : 0 ≤ P - R := by omega
    have HM := HM.out (P - R) (by rw [if_neg hR2])
    have HM := hide HM
    clear hR2
    have l := HF3.out.cv.below ((Below.refl _ _).alloc (Nat.le_refl _) (.cells #[.int .i64 x, .int .i64 (P - R), .bool false] 26)) (by have := HF3.out.big; omega)
    obtain ⟨l0, l1, l2, l3, l4, l5⟩ := l
    go_wp2_with fail
    refine (l3On_ok Hc.out ⟨x, (P - R), false⟩ _).mono ?_
    rintro r w6 ⟨⟨ok, rfl, ho⟩, hw6⟩
    have F6 := (HF3.out.call ((Below.refl _ _).alloc (Nat.le_refl _) (.cells #[.int .i64 x, .int .i64 (P - R), .bool false] 26))).call hw6
    have T6 := (PtAt.alloc w3 ⟨x, (P - R), false⟩ 26).below hw6 (by simp)
    have hcl := (HS3.out.of_all (((Below.refl _ _).alloc (Nat.le_refl _) _).trans (hw6.mono (by simp)))).cell 0 (by omega)
    rw [Nat.add_zero, H0.out] at hcl
    have HZ : Hid (w.heap.size + 3 ≤ w3.heap.size) := HF3.out.big
    have HF6 := hide F6
    clear k0 k1 k2 k3 k4 k5 l0 l1 l2 l3 l4 l5 a0 a1 a2 b0 b1 b2 r0 r1 r2 q0 q1 q2 HF3 HS3 hw6
    obtain ⟨-, ⟨a0, a1, a2, b0, b1, b2⟩, ⟨r0, r1, r2, -, -, -⟩, -, -⟩ := F6
    obtain ⟨t0, t1, t2, -, -, -⟩ := T6
    simp only [zeroP] at a0 a1 a2 r0 r1 r2 t0 t1 t2
    cases ok
    · have Hn := hide (HN.out (HM.out.resolve_left fun h => by
        have := ho.2 (Or.inr ⟨rfl, h.1⟩)
        simp at this))
      clear ho HM
      go_wp2
      refine bodyPost_ret (v := .tuple #[.agg #[.int .i64 0, .int .i64 0, .bool false], .bool false]) (by simp [results, Tryd.results32, go_sem, a0, a1, a2, r0, r1, r2]) rfl ⟨Hn.out, ?_⟩
      exact below_put HF6.out.below (C := w.heap.size + 1) (by omega) zeroP
    · have HY := hide (HY.out (P - R) (ho.1 rfl) (by omega))
      clear ho HM
      go_wp2
      refine bodyPost_ret (v := .tuple #[.agg #[.int .i64 x, .int .i64 (P - R), .bool false], .bool true]) (by simp [results, Tryd.results32, go_sem, a0, a1, a2]) rfl ⟨HY.out, ?_⟩
      exact below_put HF6.out.below (C := w.heap.size + 1) (by omega) ⟨x, (P - R), false⟩

set_option maxHeartbeats 1600000 in
set_option maxRecDepth 100000 in
theorem l3Point_three (P A B N gx gy : Int) (a : Option Addr) (b off n cap : Nat) (f : Nat → Int) (w : World) (hc : CvOk P A B N gx gy) (hs : BSeg w a b off n f) (hr : ∀ i, i < n → 0 ≤ f i ∧ f i ≤ 255) (hcap : n ≤ cap) (hn : n = 4) (h0 : f 0 = 3) :
    Calls Tryd.prog 32 #[.agg #[.int .i64 P, .int .i64 A, .int .i64 B, .int .i64 N, .int .i64 gx, .int .i64 gy], .slice a n cap] w fun r w' => GivesRd P A B N gx gy n f r ∧ Below w.heap.size w w' := by
  subst hn
  obtain ⟨x, hx⟩ : ∃ x, rd3 f 1 = x := ⟨_, rfl⟩
  have F0 : Fr2 w (((w.alloc (.cells #[.int .i64 P, .int .i64 A, .int .i64 B, .int .i64 N, .int .i64 gx, .int .i64 gy] 29)).alloc (.cells #[.int .i64 0, .int .i64 0, .bool false] 26)).alloc (.cells #[.int .i64 0, .int .i64 0, .bool false] 26)) P A B N gx gy zeroP zeroP := Fr2.box w P A B N gx gy zeroP zeroP 29 26 26
  have HF := hide F0
  obtain ⟨⟨k0, k1, k2, k3, k4, k5⟩, ⟨a0, a1, a2, b0, b1, b2⟩, ⟨r0, r1, r2, q0, q1, q2⟩, -, -⟩ := F0
  simp only [zeroP] at a0 a1 a2 r0 r1 r2
  have hb := hs.lt (by omega)
  have hs0 := hs.of_all HF.out.below
  have hcl := hs0.cell 0 (by omega)
  obtain rfl := hs.at' (by omega)
  rw [Nat.add_zero, h0] at hcl
  have HX : Hid (∀ W, BSeg W (some ⟨b, off, none⟩) b off 4 f → Calls Tryd.prog 46 #[.slice (some ⟨b, off + 1, none⟩) 3 (cap - 1)] W fun r w' => r = .returned (.int .i64 x) ∧ Below W.heap.size W w') := fun W h => by
    have := l3Read_any b (off + 1) (cap - 1) (fun i => f (1 + i)) W (h.drop 1 3 (by omega)) (fun i hi => hr _ (by omega))
    rwa [show rd3 (fun i => f (1 + i)) 0 = x from hx] at this
  have HY : Hid (∀ y, On P.toNat A B ⟨x, y, false⟩ → y % 2 = 1 → GivesRd P A B N gx gy 4 f (.returned (.tuple #[.agg #[.int .i64 x, .int .i64 y, .bool false], .bool true]))) := fun y h k =>
    givesRd_yes (c := ⟨x, y, false⟩) hc (Or.inr (Or.inr ⟨rfl, by omega, rfl, hx.symm, by rw [k, h0]; rfl, h⟩))
  have HN : Hid ((∀ z, z % 2 = 1 → ¬ Aff P.toNat A B x z) → GivesRd P A B N gx gy 4 f (.returned (.tuple #[.agg #[.int .i64 0, .int .i64 0, .bool false], .bool false]))) := fun h => givesRd_no (fun c v k => by
    rcases k with ⟨e, _⟩ | ⟨e, _⟩ | ⟨_, _, k1, k2, k3, k4⟩
    · omega
    · omega
    · have := k4.aff k1
      rw [k2, hx] at this
      exact h c.y (by omega) this)
  obtain ⟨x0, x1⟩ : 0 ≤ x ∧ x ≤ 16777215 := by rw [← hx]; exact rd3_range (hr 1 (by omega)) (hr 2 (by omega)) (hr 3 (by omega))
  have HS := hide hs0
  have Hc := hide hc
  have H0 := hide h0
  clear hs hs0 hr h0 hx hc
  have h4c : (4 : Int) ≤ (cap : Int) := by omega
  have hc1 : ¬ cap = 1 := by omega
  go_enter Tryd.func32, Tryd.ntmps32
  go_wp2_with fail
  refine (HX.out _ HS.out).mono ?_
  rintro r w2 ⟨rfl, hw2⟩
  have F2 := HF.out.call hw2
  have HF2 := hide F2
  have S2 := HS.out.of_all hw2
  have HS2 := hide S2
  clear HX HF HS h4c hc1 hw2 k0 k1 k2 k3 k4 k5 a0 a1 a2 b0 b1 b2 r0 r1 r2 q0 q1 q2 hcl
  obtain ⟨⟨k0, k1, k2, k3, k4, k5⟩, ⟨a0, a1, a2, b0, b1, b2⟩, ⟨r0, r1, r2, q0, q1, q2⟩, -, -⟩ := F2
  simp only [zeroP] at a0 a1 a2 r0 r1 r2
  by_cases hxP : x < P
  rotate_left
  · have Hn := hide (HN.out (fun z _ h => by have := h.x1; have := Hc.out.p5; omega))
    have hxP' : P ≤ x := by omega
    go_wp2
    refine bodyPost_ret (v := .tuple #[.agg #[.int .i64 0, .int .i64 0, .bool false], .bool false]) (by simp [results, Tryd.results32, go_sem, a0, a1, a2, r0, r1, r2]) rfl ⟨Hn.out, ?_⟩
    exact below_put HF2.out.below (C := w.heap.size + 1) (by omega) zeroP
  have hP5 := Hc.out.p5
  have hPM := Hc.out.pM
  have hA0 := Hc.out.a0
  have hA1 := Hc.out.a1
  have hB0 := Hc.out.b0
  have hB1 := Hc.out.b1
  obtain ⟨m, hm⟩ : ∃ m, x * x % P = m := ⟨_, rfl⟩
  have m0 : 0 ≤ m := by rw [← hm]; exact Int.emod_nonneg _ (by omega)
  have m1 : m < P := by rw [← hm]; exact Int.emod_lt_of_pos _ (by omega)
  obtain ⟨u0, u1⟩ := mulBd x0 (show x ≤ 1048576 by omega) x0 (show x ≤ 1048576 by omega)
  obtain ⟨v0, v1⟩ := mulBd (x := m + A) (y := x) (p := 2097152) (q := 1048576) (by omega) (by omega) x0 (by omega)
  obtain ⟨S, hS⟩ : ∃ S, ((m + A) * x + B) % P = S := ⟨_, rfl⟩
  obtain ⟨E, hE⟩ : ∃ E, (P + 1) / 4 = E := ⟨_, rfl⟩
  have S0 : 0 ≤ S := by rw [← hS]; exact Int.emod_nonneg _ (by omega)
  have S1 : S < P := by rw [← hS]; exact Int.emod_lt_of_pos _ (by omega)
  have c1 : IntKind.i64.wrap (x * x) = x * x := wrap_small (by omega) (by omega)
  have c2 : (x * x).tmod P = m := by rw [Int.tmod_eq_emod_of_nonneg (by omega), hm]
  have c3 : IntKind.i64.wrap (m + A) = m + A := wrap_small (by omega) (by omega)
  have c4 : IntKind.i64.wrap ((m + A) * x) = (m + A) * x := wrap_small (by omega) (by omega)
  have c5 : IntKind.i64.wrap ((m + A) * x + B) = (m + A) * x + B := wrap_small (by omega) (by omega)
  have c6 : ((m + A) * x + B).tmod P = S := by rw [Int.tmod_eq_emod_of_nonneg (by omega), hS]
  have c7 : IntKind.i64.wrap (P + 1) = P + 1 := wrap_small (by omega) (by omega)
  have c8 : (P + 1).tdiv 4 = E := by rw [Int.tdiv_eq_ediv_of_nonneg (by omega), hE]
  have c9 : IntKind.i64.wrap E = E := wrap_small (by omega) (by omega)
  have hP0 : ¬ P = 0 := by omega
  have hP0' : (P == 0) = false := by simpa using hP0
  have HSq : Hid (((S.toNat : Nat) : Int) = (x * x * x + A * x + B) % P) := by
    show _ = _
    rw [Int.toNat_of_nonneg S0, ← hS, ← hm]
    refine mod_eq ?_
    obtain ⟨k, hk⟩ : P ∣ x * x % P - x * x := ⟨-(x * x / P), by have := Int.emod_add_mul_ediv (x * x) P; grind⟩
    exact ⟨k * x, by grind⟩
  obtain ⟨R, hR⟩ : ∃ R : Int, ((S.toNat ^ E.toNat % P.toNat : Nat) : Int) = R := ⟨_, rfl⟩
  have HE : Hid (E.toNat = (P.toNat + 1) / 4) := by show _ = _; omega
  have R0 : 0 ≤ R := by omega
  have R1 : R < P := by rw [← hR]; have := Nat.mod_lt (S.toNat ^ E.toNat) (show 0 < P.toNat by omega); omega
  have HP : Hid (∀ W, Calls Tryd.prog 47 #[.int .i64 S, .int .i64 E, .int .i64 P] W fun r w' => r = .returned (.int .i64 R) ∧ Below W.heap.size W w') := fun W => by
    have := l2Pow_at S E P W S0 (by omega) (by omega) (by omega) (by omega) (by omega)
    rwa [hR] at this
  have HM : Hid (∀ y, y = (if R % 2 = 1 then R else P - R) → (Aff P.toNat A B x y ∧ y % 2 = 1) ∨ ∀ z, z % 2 = 1 → ¬ Aff P.toNat A B x z) := fun y hy => by
    refine model_root Hc.out.pp Hc.out.p4 hP5 x0 hxP (by omega) HSq.out ?_
    rw [← HE.out, hR]
    exact hy
  have HP4 := hide Hc.out.p4
  have e0 := cell_regrown k0
  have e1 := cell_regrown k1
  have e2 := cell_regrown k2
  have g0 := cell_regrown a0
  clear hm hS hE hR HE HSq u0 u1 v0 v1
  go_wp2
  refine anyW_begin 25 rfl (by kernel_rfl) ?_
  refine anyW_take 0 25 0 rfl (by decide) (by kernel_rfl) (fun _ _ d _ _ h => by cases d <;> exact h) ?_
  repeat (refine headS_step (fun K hK => ?_); go_simp; first | (refine hK _ ?_; clear hK K) | (apply Exists.intro; refine ⟨fun _ => ?_, hK _ ?_⟩; ((go_at_call 47; exact calls_head (HP.out _))); clear hK K))
  refine headS_nil ?_
  refine anyW_done (by kernel_rfl) ?_ 0
  intro w3 hw3
  clear e0 e1 e2 g0 c1 c2 c3 c4 c5 c6 c7 c8 c9
  have F3 := HF2.out.call hw3
  have HF3 := hide F3
  have S3 := HS2.out.of_all hw3
  have HS3 := hide S3
  clear k0 k1 k2 k3 k4 k5 a0 a1 a2 b0 b1 b2 r0 r1 r2 q0 q1 q2 HF2 HS2 hw3 S2
  obtain ⟨⟨k0, k1, k2, k3, k4, k5⟩, ⟨a0, a1, a2, b0, b1, b2⟩, ⟨r0, r1, r2, q0, q1, q2⟩, -, -⟩ := F3
  simp only [zeroP] at a0 a1 a2 r0 r1 r2
  have hcl := S3.cell 0 (by omega)
  rw [Nat.add_zero, H0.out] at hcl
  clear S3
  by_cases hR2 : R % 2 = 1
  · skip
    have HM := HM.out R (by rw [if_pos hR2])
    have HM := hide HM
    have l := HF3.out.cv.below ((Below.refl _ _).alloc (Nat.le_refl _) (.cells #[.int .i64 x, .int .i64 R, .bool false] 26)) (by have := HF3.out.big; omega)
    obtain ⟨l0, l1, l2, l3, l4, l5⟩ := l
    go_wp2_with fail
    refine (l3On_ok Hc.out ⟨x, R, false⟩ _).mono ?_
    rintro r w6 ⟨⟨ok, rfl, ho⟩, hw6⟩
    have F6 := (HF3.out.call ((Below.refl _ _).alloc (Nat.le_refl _) (.cells #[.int .i64 x, .int .i64 R, .bool false] 26))).call hw6
    have T6 := (PtAt.alloc w3 ⟨x, R, false⟩ 26).below hw6 (by simp)
    have hcl := (HS3.out.of_all (((Below.refl _ _).alloc (Nat.le_refl _) _).trans (hw6.mono (by simp)))).cell 0 (by omega)
    rw [Nat.add_zero, H0.out] at hcl
    have HZ : Hid (w.heap.size + 3 ≤ w3.heap.size) := HF3.out.big
    have HF6 := hide F6
    clear k0 k1 k2 k3 k4 k5 l0 l1 l2 l3 l4 l5 a0 a1 a2 b0 b1 b2 r0 r1 r2 q0 q1 q2 HF3 HS3 hw6
    obtain ⟨-, ⟨a0, a1, a2, b0, b1, b2⟩, ⟨r0, r1, r2, -, -, -⟩, -, -⟩ := F6
    obtain ⟨t0, t1, t2, -, -, -⟩ := T6
    simp only [zeroP] at a0 a1 a2 r0 r1 r2 t0 t1 t2
    cases ok
    · have Hn := hide (HN.out (HM.out.resolve_left fun h => by
        have := ho.2 (Or.inr ⟨rfl, h.1⟩)
        simp at this))
      clear ho HM
      go_wp2
      refine bodyPost_ret (v := .tuple #[.agg #[.int .i64 0, .int .i64 0, .bool false], .bool false]) (by simp [results, Tryd.results32, go_sem, a0, a1, a2, r0, r1, r2]) rfl ⟨Hn.out, ?_⟩
      exact below_put HF6.out.below (C := w.heap.size + 1) (by omega) zeroP
    · have HY := hide (HY.out (R) (ho.1 rfl) (by omega))
      clear ho HM
      go_wp2
      refine bodyPost_ret (v := .tuple #[.agg #[.int .i64 x, .int .i64 R, .bool false], .bool true]) (by simp [results, Tryd.results32, go_sem, a0, a1, a2]) rfl ⟨HY.out, ?_⟩
      exact below_put HF6.out.below (C := w.heap.size + 1) (by omega) ⟨x, R, false⟩
  · have hR3 : R % 2 = 1 - 1 := by omega
    have hR4 : (P - R) % 2 = 1 := by have := HP4.out; omega
    have hR5 : 0 ≤ P - R := by omega
    have HM := HM.out (P - R) (by rw [if_neg hR2])
    have HM := hide HM
    clear hR2
    have l := HF3.out.cv.below ((Below.refl _ _).alloc (Nat.le_refl _) (.cells #[.int .i64 x, .int .i64 (P - R), .bool false] 26)) (by have := HF3.out.big; omega)
    obtain ⟨l0, l1, l2, l3, l4, l5⟩ := l
    go_wp2_with fail
    refine (l3On_ok Hc.out ⟨x, (P - R), false⟩ _).mono ?_
    rintro r w6 ⟨⟨ok, rfl, ho⟩, hw6⟩
    have F6 := (HF3.out.call ((Below.refl _ _).alloc (Nat.le_refl _) (.cells #[.int .i64 x, .int .i64 (P - R), .bool false] 26))).call hw6
    have T6 := (PtAt.alloc w3 ⟨x, (P - R), false⟩ 26).below hw6 (by simp)
    have hcl := (HS3.out.of_all (((Below.refl _ _).alloc (Nat.le_refl _) _).trans (hw6.mono (by simp)))).cell 0 (by omega)
    rw [Nat.add_zero, H0.out] at hcl
    have HZ : Hid (w.heap.size + 3 ≤ w3.heap.size) := HF3.out.big
    have HF6 := hide F6
    clear k0 k1 k2 k3 k4 k5 l0 l1 l2 l3 l4 l5 a0 a1 a2 b0 b1 b2 r0 r1 r2 q0 q1 q2 HF3 HS3 hw6
    obtain ⟨-, ⟨a0, a1, a2, b0, b1, b2⟩, ⟨r0, r1, r2, -, -, -⟩, -, -⟩ := F6
    obtain ⟨t0, t1, t2, -, -, -⟩ := T6
    simp only [zeroP] at a0 a1 a2 r0 r1 r2 t0 t1 t2
    cases ok
    · have Hn := hide (HN.out (HM.out.resolve_left fun h => by
        have := ho.2 (Or.inr ⟨rfl, h.1⟩)
        simp at this))
      clear ho HM
      go_wp2
      refine bodyPost_ret (v := .tuple #[.agg #[.int .i64 0, .int .i64 0, .bool false], .bool false]) (by simp [results, Tryd.results32, go_sem, a0, a1, a2, r0, r1, r2]) rfl ⟨Hn.out, ?_⟩
      exact below_put HF6.out.below (C := w.heap.size + 1) (by omega) zeroP
    · have HY := hide (HY.out (P - R) (ho.1 rfl) (by omega))
      clear ho HM
      go_wp2
      refine bodyPost_ret (v := .tuple #[.agg #[.int .i64 x, .int .i64 (P - R), .bool false], .bool true]) (by simp [results, Tryd.results32, go_sem, a0, a1, a2]) rfl ⟨HY.out, ?_⟩
      exact below_put HF6.out.below (C := w.heap.size + 1) (by omega) ⟨x, (P - R), false⟩

end Go.Proofs.YtnhemiaklkkilabDoor
