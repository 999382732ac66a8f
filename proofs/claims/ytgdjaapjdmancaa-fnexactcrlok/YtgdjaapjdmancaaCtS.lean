/- Walks: serials, times and seals that are right, of the program. -/
import Derived.Test.YtgdjaapjdmancaaCtB
namespace Go.Proofs.Ytgdjaapjdmancaa
set_option linter.unusedVariables false
set_option linter.unusedSimpArgs false
set_option maxRecDepth 100000
open Go.RowKit

/-- Both are times, the one not behind the other. -/
def tsB (fr to : Int) : Bool := tmB fr && (tmB to && decide (fr ≤ to))
/-- An algorithm, and a signature that is not too long. -/
def slB (alg : Int) (ng : Nat) : Bool := inB alg 1 4 && inB (ng : Int) 1 64

theorem allB_and (p q : Nat → Bool) (n : Nat) : allB (fun i => p i && q i) n = (allB p n && allB q n) := by
  cases e : allB (fun i => p i && q i) n
  · cases e1 : allB p n
    · rfl
    · cases e2 : allB q n
      · rfl
      · rw [allB_yes (fun j hj => by rw [allB_iff.1 e1 j hj, allB_iff.1 e2 j hj]; rfl)] at e
        cases e
  · have h := allB_iff.1 e
    rw [allB_yes (fun j hj => by have := h j hj; rw [Bool.and_eq_true] at this; exact this.1), allB_yes (fun j hj => by have := h j hj; rw [Bool.and_eq_true] at this; exact this.2)]
    rfl

theorem serialOk_any (x : Int) (w : World) : Calls Try.prog 22 #[.int .i64 x] w fun e w' => e = .returned (.bool (inB x 1 1000000000000000)) ∧ Ext w w' := by
  have HX := hide (inRange_any x 1 1000000000000000 w)
  generalize inB x 1 1000000000000000 = R at *
  go_enter Try.func22, Try.ntmps22
  go_wp2_with fail
  refine HX.out.mono ?_
  rintro e w1 ⟨rfl, hw⟩
  obtain rfl := hw.symm
  go_wp2
  go_ret
  exact ⟨rfl, Ext.refl _⟩

theorem timesOk_any (fr to : Int) (w : World) : Calls Try.prog 19 #[.int .i64 fr, .int .i64 to] w fun e w' => e = .returned (.bool (tsB fr to)) ∧ Ext w w' := by
  have H1 := hide (isTimeB fr w)
  have H2 := hide (isTimeB to w)
  have HV : Hid (tsB fr to = (tmB fr && (tmB to && decide (fr ≤ to)))) := rfl
  obtain ⟨R, hR⟩ : ∃ R, tsB fr to = R := ⟨_, rfl⟩
  rw [hR] at HV ⊢
  clear hR
  obtain ⟨q1, hq1⟩ : ∃ q, tmB fr = q := ⟨_, rfl⟩
  obtain ⟨q2, hq2⟩ : ∃ q, tmB to = q := ⟨_, rfl⟩
  rw [hq1] at H1 HV
  rw [hq2] at H2 HV
  clear hq1 hq2
  go_enter Try.func19, Try.ntmps19
  go_wp2_with fail
  refine H1.out.mono ?_
  rintro e w1 ⟨rfl, hw⟩
  obtain rfl := hw.symm
  clear hw
  cases q1
  · go_wp2
    go_ret
    exact ⟨ret_bool (by rw [HV.out]; rfl), Ext.refl _⟩
  go_wp2_with fail
  refine H2.out.mono ?_
  rintro e w2 ⟨rfl, hw⟩
  obtain rfl := hw.symm
  clear hw
  cases q2
  · go_wp2
    go_ret
    exact ⟨ret_bool (by rw [HV.out]; rfl), Ext.refl _⟩
  go_wp2
  go_ret
  exact ⟨ret_bool (by rw [HV.out]; rfl), Ext.refl _⟩

theorem sealOk_any (alg : Int) (a : Option Addr) (ng cap : Nat) (w : World) : Calls Try.prog 20 #[.int .i64 alg, .slice a ng cap] w fun e w' => e = .returned (.bool (slB alg ng)) ∧ Ext w w' := by
  have H1 := hide (inRange_any alg 1 4 w)
  have H2 := hide (inRange_any (ng : Int) 1 64 w)
  have HV : Hid (slB alg ng = (inB alg 1 4 && inB (ng : Int) 1 64)) := rfl
  obtain ⟨R, hR⟩ : ∃ R, slB alg ng = R := ⟨_, rfl⟩
  rw [hR] at HV ⊢
  clear hR
  obtain ⟨q1, hq1⟩ : ∃ q, inB alg 1 4 = q := ⟨_, rfl⟩
  obtain ⟨q2, hq2⟩ : ∃ q, inB (ng : Int) 1 64 = q := ⟨_, rfl⟩
  rw [hq1] at H1 HV
  rw [hq2] at H2 HV
  clear hq1 hq2
  go_enter Try.func20, Try.ntmps20
  go_wp2_with fail
  refine H1.out.mono ?_
  rintro e w1 ⟨rfl, hw⟩
  obtain rfl := hw.symm
  clear hw
  cases q1
  · go_wp2
    go_ret
    exact ⟨ret_bool (by rw [HV.out]; rfl), Ext.refl _⟩
  go_wp2_with fail
  refine H2.out.mono ?_
  rintro e w2 ⟨rfl, hw⟩
  obtain rfl := hw.symm
  clear hw
  go_wp2
  go_ret
  exact ⟨ret_bool (by rw [HV.out]; rfl), Ext.refl _⟩

end Go.Proofs.Ytgdjaapjdmancaa
