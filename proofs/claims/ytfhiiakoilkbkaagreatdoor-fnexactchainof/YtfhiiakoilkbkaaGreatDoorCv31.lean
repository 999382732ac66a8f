/- Keys: the helpers of KeyOk of both (written by mkkey.py). -/
import Derived.Test.YtfhiiakoilkbkaaGreatDoorCv29
namespace Go.Proofs.YtfhiiakoilkbkaaGreatDoor
set_option linter.unusedVariables false
set_option linter.unusedSimpArgs false
open Go.RowKit
def rsB (n : Nat) (f : Nat → Int) (e : Int) : Bool := decide (128 ≤ bitsQ n f) && (decide (bitsQ n f ≤ 512) && (f 0 % 2 == 1 && (decide (3 ≤ e) && (decide (e ≤ 65537) && e % 2 == 1))))
theorem bitsQ_pos {n : Nat} {f : Nat → Int} (h : 128 ≤ bitsQ n f) : natOk n f = true ∧ 0 < n ∧ 0 ≤ f 0 ∧ f 0 ≤ 65535 ∧ bitsQ n f = bitsOf n f := by
 unfold bitsQ at h ⊢
 cases hk : natOk n f
 ·rw [hk] at h; simp at h
 ·rw [hk] at h
  have h0 : 0 < n := by
   rcases Nat.eq_zero_or_pos n with e | e
   ·subst e; simp [bitsOf] at h
   ·exact e
  have := ((natOk_iff n f).1 hk).1 0 h0
  exact ⟨rfl, h0, this.1, this.2, by simp⟩
set_option maxHeartbeats 1600000 in
theorem rsaOk_any (a : Option Addr) (b off n cap : Nat) (f : Nat → Int) (e : Int) (w : World) (hs : Seg w a b off n f) (hn : n ≤ 1048576) (he0 : -9223372036854775808 ≤ e) (he1 : e ≤ 9223372036854775807) :
  Calls Tryz.prog 112 #[.slice a n cap, .int .i64 e] w fun r w' => r = .returned (.bool (rsB n f e)) ∧ w' = w := by
 have HB := hide (implNatBits_any a b off n cap f w hs hn)
 have HV : Hid (rsB n f e = (decide (128 ≤ bitsQ n f) && (decide (bitsQ n f ≤ 512) && (f 0 % 2 == 1 && (decide (3 ≤ e) && (decide (e ≤ 65537) && e % 2 == 1)))))) := rfl
 have HP := hide (@bitsQ_pos n f)
 generalize rsB n f e = R at *
 generalize bitsQ n f = B at *
 by_cases h1 : 128 ≤ B
 ·obtain ⟨-, h0, f0, f1, -⟩ := HP.out h1
  obtain rfl := hs.at' h0
  have c0 := hs.cell 0 h0
  simp only [Nat.add_zero] at c0
  have hn0 : (0 : Int) < (n : Int) := by omega
  have m1 : Int.tmod (f 0) 2 = f 0 % 2 := by rw [Int.tmod_eq_emod_of_nonneg f0]
  clear hs HP
  by_cases h2 : B ≤ 512
  ·obtain ⟨q3, h3⟩ : ∃ q3, (f 0 % 2 == 1) = q3 := ⟨_, rfl⟩
   rw [h3] at HV
   generalize f 0 = z at *
   cases q3
   ·go_enter Tryz.func112, Tryz.ntmps112
    go_wp2_with (go_at_call 134; refine HB.out.mono ?_; rintro r w1 ⟨rfl, hw⟩; obtain rfl := hw.symm)
    go_ret
    exact ⟨ret_bool (by rw [HV.out]; first | (simp [*]; done) | (simp; omega)), rfl⟩
   ·by_cases h4 : 3 ≤ e
    ·by_cases h5 : e ≤ 65537
     ·obtain ⟨q6, h6⟩ : ∃ q6, (e % 2 == 1) = q6 := ⟨_, rfl⟩
      rw [h6] at HV
      have m2 : Int.tmod e 2 = e % 2 := by rw [Int.tmod_eq_emod_of_nonneg (by omega)]
      go_enter Tryz.func112, Tryz.ntmps112
      go_wp2_with (go_at_call 134; refine HB.out.mono ?_; rintro r w1 ⟨rfl, hw⟩; obtain rfl := hw.symm)
      go_ret
      exact ⟨ret_bool (by rw [HV.out]; first | (simp [*]; done) | (simp; omega)), rfl⟩
     ·go_enter Tryz.func112, Tryz.ntmps112
      go_wp2_with (go_at_call 134; refine HB.out.mono ?_; rintro r w1 ⟨rfl, hw⟩; obtain rfl := hw.symm)
      go_ret
      exact ⟨ret_bool (by rw [HV.out]; first | (simp [*]; done) | (simp; omega)), rfl⟩
    ·go_enter Tryz.func112, Tryz.ntmps112
     go_wp2_with (go_at_call 134; refine HB.out.mono ?_; rintro r w1 ⟨rfl, hw⟩; obtain rfl := hw.symm)
     go_ret
     exact ⟨ret_bool (by rw [HV.out]; first | (simp [*]; done) | (simp; omega)), rfl⟩
  ·go_enter Tryz.func112, Tryz.ntmps112
   go_wp2_with (go_at_call 134; refine HB.out.mono ?_; rintro r w1 ⟨rfl, hw⟩; obtain rfl := hw.symm)
   go_ret
   exact ⟨ret_bool (by rw [HV.out]; first | (simp [*]; done) | (simp; omega)), rfl⟩
 ·clear hs HP
  go_enter Tryz.func112, Tryz.ntmps112
  go_wp2_with (go_at_call 134; refine HB.out.mono ?_; rintro r w1 ⟨rfl, hw⟩; obtain rfl := hw.symm)
  go_ret
  exact ⟨ret_bool (by rw [HV.out]; first | (simp [*]; done) | (simp; omega)), rfl⟩
def CkOk (k : Ky) : Prop := (CvOk k.cP k.cA k.cB k.cN k.cX k.cY ∧ On k.cP.toNat k.cA k.cB k.q) ∧ k.q.far = false ∧ (mulF k.cP.toNat k.cA k.cN.toNat k.q).far = true
set_option maxHeartbeats 1600000 in
theorem curveKeyOk_any (k : Ky) (ok : Bool) (hk : ok = true ↔ CkOk k) (w : World) (hP1 : k.cP ≤ 9223372036854775807) (hN1 : k.cN ≤ 9223372036854775807) :
  Calls Tryz.prog 114 #[.agg #[.int .i64 k.cP, .int .i64 k.cA, .int .i64 k.cB, .int .i64 k.cN, .int .i64 k.cX, .int .i64 k.cY], .agg #[.int .i64 k.q.x, .int .i64 k.q.y, .bool k.q.far]] w fun r w' => r = .returned (.bool ok) ∧ Ext w w' := by
 obtain ⟨V, hV⟩ : ∃ V, (w.alloc (.cells #[.int .i64 k.cP, .int .i64 k.cA, .int .i64 k.cB, .int .i64 k.cN, .int .i64 k.cX, .int .i64 k.cY] 46)).alloc (.cells #[.int .i64 k.q.x, .int .i64 k.q.y, .bool k.q.far] 47) = V := ⟨_, rfl⟩
 obtain ⟨B0, B1, hE, -⟩ := box2 w [.int .i64 k.cP, .int .i64 k.cA, .int .i64 k.cB, .int .i64 k.cN, .int .i64 k.cX, .int .i64 k.cY] [.int .i64 k.q.x, .int .i64 k.q.y, .bool k.q.far] 46 47 (w1 := V) (by rw [← hV]; exact Ext.refl _)
 have c0 := (B0 0 _ rfl).1
 have c1 := (B0 1 _ rfl).1
 have c2 := (B0 2 _ rfl).1
 have c3 := (B0 3 _ rfl).1
 have c4 := (B0 4 _ rfl).1
 have c5 := (B0 5 _ rfl).1
 have d0 := (B1 0 _ rfl).1
 have d1 := (B1 1 _ rfl).1
 have d2 := (B1 2 _ rfl).1
 have HE := hide hE
 have HM := hide (implPointMul_any k.cP k.cA k.cB k.cN k.cX k.cY k.cN k.q V hP1 hN1)
 have Hk := hide hk
 clear B0 B1 hE hk
 go_enter Tryz.func114, Tryz.ntmps114
 go_wp2_with fail
 refine HM.out.mono ?_
 rintro r w1 ⟨⟨c, b, rfl, hO⟩, hE1⟩
 have HE1 := hide (Ext.trans HE.out hE1)
 have d2' := (Below.cell hE1 (World.block_lt_of_cell? _ _ d2)).trans d2
 have dlt : w.heap.size + 1 < w1.heap.size := World.block_lt_of_cell? _ _ d2'
 have d2a : ∀ o, (w1.alloc o).cell? ⟨w.heap.size + 1, 2, none⟩ = some (.bool k.q.far) := fun o => (Below.cell (Ext.alloc w1 o) (p := ⟨w.heap.size + 1, 2, none⟩) dlt).trans d2'
 have HO := hide hO
 simp only [ptV]
 clear hE1 hO HM d0 d1 d2 c0 c1 c2 c3 c4 c5
 cases b
 ·have Hf : Hid (false = ok) := by
   show _ = _
   cases h : ok
   ·rfl
   ·have h2 := Hk.out.1 h
    rcases HO.out with ⟨h3, _⟩ | ⟨_, h3, _⟩
    ·simp at h3
    ·exact absurd ⟨h2.1.1, h2.1.2, by have := h2.1.1.n5; omega, by have := h2.1.1.nM; omega⟩ h3
  go_wp2
  go_ret
  exact ⟨ret_bool Hf.out, Ext.trans HE1.out (Ext.alloc _ _)⟩
 ·have hc : MulQ k.cP k.cA k.cB k.cN k.cX k.cY k.cN k.q ∧ c = mulF k.cP.toNat k.cA k.cN.toNat k.q := by
   rcases HO.out with ⟨h3, h4, h5⟩ | ⟨h3, _, _⟩
   ·exact ⟨h4, h5⟩
   ·simp at h3
  have Hf : Hid ((c.far && !k.q.far) = ok) := by
   show _ = _
   have h1 : ok = true ↔ c.far = true ∧ k.q.far = false := by
    rw [Hk.out, hc.2]
    exact ⟨fun h => ⟨h.2.2, h.2.1⟩, fun h => ⟨⟨hc.1.1, hc.1.2.1⟩, h.2, h.1⟩⟩
   cases h2 : ok
   ·rw [h2] at h1
    cases h3 : c.far
    ·rfl
    ·cases h4 : k.q.far
     ·exact absurd (h1.2 ⟨h3, h4⟩) (by simp)
     ·rfl
   ·have := h1.1 h2
    rw [this.1, this.2]
    rfl
  clear hc HO Hk
  obtain ⟨cx, cy, cf⟩ := c
  generalize k.q.far = qf at *
  cases cf <;> cases qf
  all_goals
   go_wp2
   go_ret
   exact ⟨ret_bool Hf.out, Ext.trans HE1.out (Ext.alloc _ _)⟩
def ky0 : Ky := (⟨0, 0, fun _ => 0, 0, 0, 0, 0, 0, 0, 0, ⟨0, 0, false⟩, 0, 0, 0, 0, 0, ⟨0, 0⟩⟩ : Ky)
set_option maxHeartbeats 3200000 in
set_option maxRecDepth 100000 in
theorem noCurve_any (k : Ky) (ad : Option Addr) (cap : Nat) (w : World) :
  Calls Tryz.prog 91 #[.agg #[.int .i64 k.kind, .slice ad k.n cap, .int .i64 k.e, .int .i64 k.cP, .int .i64 k.cA, .int .i64 k.cB, .int .i64 k.cN, .int .i64 k.cX, .int .i64 k.cY, .int .i64 k.q.x, .int .i64 k.q.y, .bool k.q.far, .int .i64 k.dP, .int .i64 k.dD, .int .i64 k.dL, .int .i64 k.dX, .int .i64 k.dY, .int .i64 k.a.x, .int .i64 k.a.y]] w fun e w' => e = .returned (.bool (cvB k ky0 && ptB k ky0)) ∧ Ext w w' := by
 obtain ⟨V, hV⟩ : ∃ V, w.alloc (.cells #[.int .i64 k.kind, .slice ad k.n cap, .int .i64 k.e, .int .i64 k.cP, .int .i64 k.cA, .int .i64 k.cB, .int .i64 k.cN, .int .i64 k.cX, .int .i64 k.cY, .int .i64 k.q.x, .int .i64 k.q.y, .bool k.q.far, .int .i64 k.dP, .int .i64 k.dD, .int .i64 k.dL, .int .i64 k.dX, .int .i64 k.dY, .int .i64 k.a.x, .int .i64 k.a.y] 51) = V := ⟨_, rfl⟩
 obtain ⟨B0, hE, -⟩ := box1 w [.int .i64 k.kind, .slice ad k.n cap, .int .i64 k.e, .int .i64 k.cP, .int .i64 k.cA, .int .i64 k.cB, .int .i64 k.cN, .int .i64 k.cX, .int .i64 k.cY, .int .i64 k.q.x, .int .i64 k.q.y, .bool k.q.far, .int .i64 k.dP, .int .i64 k.dD, .int .i64 k.dL, .int .i64 k.dX, .int .i64 k.dY, .int .i64 k.a.x, .int .i64 k.a.y] 51 (w1 := V) (by rw [← hV]; exact Ext.refl _)
 have c0 := (B0 0 _ rfl).1
 have c1 := (B0 1 _ rfl).1
 have c2 := (B0 2 _ rfl).1
 have c3 := (B0 3 _ rfl).1
 have c4 := (B0 4 _ rfl).1
 have c5 := (B0 5 _ rfl).1
 have c6 := (B0 6 _ rfl).1
 have c7 := (B0 7 _ rfl).1
 have c8 := (B0 8 _ rfl).1
 have c9 := (B0 9 _ rfl).1
 have c10 := (B0 10 _ rfl).1
 have c11 := (B0 11 _ rfl).1
 have c12 := (B0 12 _ rfl).1
 have c13 := (B0 13 _ rfl).1
 have c14 := (B0 14 _ rfl).1
 have c15 := (B0 15 _ rfl).1
 have c16 := (B0 16 _ rfl).1
 have c17 := (B0 17 _ rfl).1
 have c18 := (B0 18 _ rfl).1
 have HE := hide hE
 clear B0 hE
 have h4 : ∀ w, (binOp .eql 46 (.agg #[.int .i64 k.cP, .int .i64 k.cA, .int .i64 k.cB, .int .i64 k.cN, .int .i64 k.cX, .int .i64 k.cY]) (.agg #[.int .i64 0, .int .i64 0, .int .i64 0, .int .i64 0, .int .i64 0, .int .i64 0])).run Tryz.prog w = .ok (.bool (cvB k ky0)) w := fun w => run_eqCv _ _ _ _ _ _ _ _ _ _ _ _ w
 have h5 : ∀ w, (binOp .eql 47 (.agg #[.int .i64 k.q.x, .int .i64 k.q.y, .bool k.q.far]) (.agg #[.int .i64 0, .int .i64 0, .bool false])).run Tryz.prog w = .ok (.bool (ptB k ky0)) w := fun w => run_eqPt _ _ _ _ _ _ w
 generalize cvB k ky0 = q4 at *
 generalize ptB k ky0 = q5 at *
 cases q4
 ·go_enter Tryz.func91, Tryz.ntmps91
  go_wp2
  go_ret
  exact ⟨rfl, HE.out⟩
 ·go_enter Tryz.func91, Tryz.ntmps91
  go_wp2
  go_ret
  exact ⟨rfl, HE.out⟩
set_option maxHeartbeats 3200000 in
set_option maxRecDepth 100000 in
theorem noEd_any (k : Ky) (ad : Option Addr) (cap : Nat) (w : World) :
  Calls Tryz.prog 92 #[.agg #[.int .i64 k.kind, .slice ad k.n cap, .int .i64 k.e, .int .i64 k.cP, .int .i64 k.cA, .int .i64 k.cB, .int .i64 k.cN, .int .i64 k.cX, .int .i64 k.cY, .int .i64 k.q.x, .int .i64 k.q.y, .bool k.q.far, .int .i64 k.dP, .int .i64 k.dD, .int .i64 k.dL, .int .i64 k.dX, .int .i64 k.dY, .int .i64 k.a.x, .int .i64 k.a.y]] w fun e w' => e = .returned (.bool (edB k ky0 && prB k ky0)) ∧ Ext w w' := by
 obtain ⟨V, hV⟩ : ∃ V, w.alloc (.cells #[.int .i64 k.kind, .slice ad k.n cap, .int .i64 k.e, .int .i64 k.cP, .int .i64 k.cA, .int .i64 k.cB, .int .i64 k.cN, .int .i64 k.cX, .int .i64 k.cY, .int .i64 k.q.x, .int .i64 k.q.y, .bool k.q.far, .int .i64 k.dP, .int .i64 k.dD, .int .i64 k.dL, .int .i64 k.dX, .int .i64 k.dY, .int .i64 k.a.x, .int .i64 k.a.y] 51) = V := ⟨_, rfl⟩
 obtain ⟨B0, hE, -⟩ := box1 w [.int .i64 k.kind, .slice ad k.n cap, .int .i64 k.e, .int .i64 k.cP, .int .i64 k.cA, .int .i64 k.cB, .int .i64 k.cN, .int .i64 k.cX, .int .i64 k.cY, .int .i64 k.q.x, .int .i64 k.q.y, .bool k.q.far, .int .i64 k.dP, .int .i64 k.dD, .int .i64 k.dL, .int .i64 k.dX, .int .i64 k.dY, .int .i64 k.a.x, .int .i64 k.a.y] 51 (w1 := V) (by rw [← hV]; exact Ext.refl _)
 have c0 := (B0 0 _ rfl).1
 have c1 := (B0 1 _ rfl).1
 have c2 := (B0 2 _ rfl).1
 have c3 := (B0 3 _ rfl).1
 have c4 := (B0 4 _ rfl).1
 have c5 := (B0 5 _ rfl).1
 have c6 := (B0 6 _ rfl).1
 have c7 := (B0 7 _ rfl).1
 have c8 := (B0 8 _ rfl).1
 have c9 := (B0 9 _ rfl).1
 have c10 := (B0 10 _ rfl).1
 have c11 := (B0 11 _ rfl).1
 have c12 := (B0 12 _ rfl).1
 have c13 := (B0 13 _ rfl).1
 have c14 := (B0 14 _ rfl).1
 have c15 := (B0 15 _ rfl).1
 have c16 := (B0 16 _ rfl).1
 have c17 := (B0 17 _ rfl).1
 have c18 := (B0 18 _ rfl).1
 have HE := hide hE
 clear B0 hE
 have h4 : ∀ w, (binOp .eql 48 (.agg #[.int .i64 k.dP, .int .i64 k.dD, .int .i64 k.dL, .int .i64 k.dX, .int .i64 k.dY]) (.agg #[.int .i64 0, .int .i64 0, .int .i64 0, .int .i64 0, .int .i64 0])).run Tryz.prog w = .ok (.bool (edB k ky0)) w := fun w => run_eqEd _ _ _ _ _ _ _ _ _ _ w
 have h5 : ∀ w, (binOp .eql 49 (.agg #[.int .i64 k.a.x, .int .i64 k.a.y]) (.agg #[.int .i64 0, .int .i64 0])).run Tryz.prog w = .ok (.bool (prB k ky0)) w := fun w => run_eqPr _ _ _ _ w
 generalize edB k ky0 = q4 at *
 generalize prB k ky0 = q5 at *
 cases q4
 ·go_enter Tryz.func92, Tryz.ntmps92
  go_wp2
  go_ret
  exact ⟨rfl, HE.out⟩
 ·go_enter Tryz.func92, Tryz.ntmps92
  go_wp2
  go_ret
  exact ⟨rfl, HE.out⟩
set_option maxHeartbeats 3200000 in
set_option maxRecDepth 100000 in
theorem noRsa_any (k : Ky) (ad : Option Addr) (cap : Nat) (w : World) :
  Calls Tryz.prog 95 #[.agg #[.int .i64 k.kind, .slice ad k.n cap, .int .i64 k.e, .int .i64 k.cP, .int .i64 k.cA, .int .i64 k.cB, .int .i64 k.cN, .int .i64 k.cX, .int .i64 k.cY, .int .i64 k.q.x, .int .i64 k.q.y, .bool k.q.far, .int .i64 k.dP, .int .i64 k.dD, .int .i64 k.dL, .int .i64 k.dX, .int .i64 k.dY, .int .i64 k.a.x, .int .i64 k.a.y]] w fun e w' => e = .returned (.bool (k.n == 0 && k.e == 0)) ∧ Ext w w' := by
 obtain ⟨V, hV⟩ : ∃ V, w.alloc (.cells #[.int .i64 k.kind, .slice ad k.n cap, .int .i64 k.e, .int .i64 k.cP, .int .i64 k.cA, .int .i64 k.cB, .int .i64 k.cN, .int .i64 k.cX, .int .i64 k.cY, .int .i64 k.q.x, .int .i64 k.q.y, .bool k.q.far, .int .i64 k.dP, .int .i64 k.dD, .int .i64 k.dL, .int .i64 k.dX, .int .i64 k.dY, .int .i64 k.a.x, .int .i64 k.a.y] 51) = V := ⟨_, rfl⟩
 obtain ⟨B0, hE, -⟩ := box1 w [.int .i64 k.kind, .slice ad k.n cap, .int .i64 k.e, .int .i64 k.cP, .int .i64 k.cA, .int .i64 k.cB, .int .i64 k.cN, .int .i64 k.cX, .int .i64 k.cY, .int .i64 k.q.x, .int .i64 k.q.y, .bool k.q.far, .int .i64 k.dP, .int .i64 k.dD, .int .i64 k.dL, .int .i64 k.dX, .int .i64 k.dY, .int .i64 k.a.x, .int .i64 k.a.y] 51 (w1 := V) (by rw [← hV]; exact Ext.refl _)
 have c0 := (B0 0 _ rfl).1
 have c1 := (B0 1 _ rfl).1
 have c2 := (B0 2 _ rfl).1
 have c3 := (B0 3 _ rfl).1
 have c4 := (B0 4 _ rfl).1
 have c5 := (B0 5 _ rfl).1
 have c6 := (B0 6 _ rfl).1
 have c7 := (B0 7 _ rfl).1
 have c8 := (B0 8 _ rfl).1
 have c9 := (B0 9 _ rfl).1
 have c10 := (B0 10 _ rfl).1
 have c11 := (B0 11 _ rfl).1
 have c12 := (B0 12 _ rfl).1
 have c13 := (B0 13 _ rfl).1
 have c14 := (B0 14 _ rfl).1
 have c15 := (B0 15 _ rfl).1
 have c16 := (B0 16 _ rfl).1
 have c17 := (B0 17 _ rfl).1
 have c18 := (B0 18 _ rfl).1
 have HE := hide hE
 clear B0 hE
 obtain ⟨q4, h4⟩ : ∃ q4, (k.n == 0) = q4 := ⟨_, rfl⟩
 obtain ⟨q5, h5⟩ : ∃ q5, (k.e == 0) = q5 := ⟨_, rfl⟩
 have h4' : ((k.n : Int) == 0) = q4 := by rw [← h4]; cases h : (k.n == 0) <;> simp at h ⊢ <;> omega
 rw [h4, h5]
 clear h4
 cases q4
 ·go_enter Tryz.func95, Tryz.ntmps95
  go_wp2
  go_ret
  exact ⟨rfl, HE.out⟩
 ·go_enter Tryz.func95, Tryz.ntmps95
  go_wp2
  go_ret
  exact ⟨rfl, HE.out⟩
end Go.Proofs.YtfhiiakoilkbkaaGreatDoor
