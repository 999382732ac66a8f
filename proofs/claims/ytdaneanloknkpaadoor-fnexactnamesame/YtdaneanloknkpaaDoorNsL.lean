/- The walk of the law FnExactNameSame. -/
import Derived.Test.YtdaneanloknkpaaDoorNmx
namespace Go.Proofs.YtdaneanloknkpaaDoor
set_option linter.unusedVariables false
set_option linter.unusedSimpArgs false
open Go.RowKit

set_option maxHeartbeats 3200000 in
set_option maxRecDepth 100000 in
theorem lawNameSame_any (a : Option Addr) (b off n cap : Nat) (f : Nat → ByteArray) (a2 : Option Addr) (b2 off2 m cap2 : Nat) (g : Nat → ByteArray) (w : World) (hI : StsIn w a b off n f) (hJ : StsIn w a2 b2 off2 m g) :
    Calls Tryd.prog 3 #[.slice a n cap, .slice a2 m cap2] w fun e w' => e = .returned (.bool true) ∧ Ext w w' := by
  have HI := hide hI
  have HJ := hide hJ
  clear hI hJ
  go_enter Tryd.func3, Tryd.ntmps3
  go_wp2_with fail
  refine (szStringS_any a b off n cap f 1048576 w HI.out (by omega) (by omega)).mono ?_
  rintro e w1 ⟨⟨z, rfl, z0, z1, hz⟩, hw⟩
  obtain rfl := hw.symm
  by_cases hz0 : z < 0
  · go_wp2
    go_ret
    exact ⟨rfl, Ext.refl _⟩
  obtain ⟨hn, hf⟩ := hz (by omega)
  have Hf := hide hf
  clear hf hz
  go_wp2_with fail
  refine (szStringS_any a2 b2 off2 m cap2 g z w HJ.out (by omega) (by omega)).mono ?_
  rintro e w1 ⟨⟨y, rfl, y0, y1, hy⟩, hw⟩
  obtain rfl := hw.symm
  by_cases hy0 : y < 0
  · go_wp2
    go_ret
    exact ⟨rfl, Ext.refl _⟩
  obtain ⟨hm, hg⟩ := hy (by omega)
  have hn1 : n ≤ 1048576 := by omega
  have hm1 : m ≤ 1048576 := by omega
  have Hf1 : Hid (∀ i, i < n → (f i).size ≤ 1048576) := fun i hi => by have := Hf.out i hi; omega
  have Hg1 : Hid (∀ i, i < m → (g i).size ≤ 1048576) := fun i hi => by have := hg i hi; omega
  clear hg hy Hf hn hm
  have HA : Hid (∀ w', Ext w w' → Calls Tryd.prog 7 #[.slice a n cap] w' fun e w'' => e = .returned (.slice (some ⟨w'.heap.size, 0, none⟩) n n) ∧ SSeg w'' (some ⟨w'.heap.size, 0, none⟩) w'.heap.size 0 n f ∧ Ext w' w'') := fun w' he => (toStringS_any a b off n cap f w' (HI.out.seg.of_all he) hn1).mono (fun e w'' ⟨h1, h2⟩ => ⟨h1, h2.seg, h2.below⟩)
  have HB : Hid (∀ w', Ext w w' → Calls Tryd.prog 7 #[.slice a2 m cap2] w' fun e w'' => e = .returned (.slice (some ⟨w'.heap.size, 0, none⟩) m m) ∧ SSeg w'' (some ⟨w'.heap.size, 0, none⟩) w'.heap.size 0 m g ∧ Ext w' w'') := fun w' he => (toStringS_any a2 b2 off2 m cap2 g w' (HJ.out.seg.of_all he) hm1).mono (fun e w'' ⟨h1, h2⟩ => ⟨h1, h2.seg, h2.below⟩)
  have HE : Hid (Ext w w) := Ext.refl _
  go_wp2_with fail
  refine (HA.out _ HE.out).mono ?_
  rintro e w2 ⟨rfl, hs2, hE2⟩
  replace HE := hide (Ext.trans HE.out hE2)
  clear hE2
  go_wp2_with fail
  refine (HB.out _ HE.out).mono ?_
  rintro e w3 ⟨rfl, hs3, hE3⟩
  replace HE := hide (Ext.trans HE.out hE3)
  replace hs2 := hs2.of_all hE3
  clear hE3
  go_wp2_with fail
  refine (specNameSame_any _ _ _ n n f _ _ _ m m g w3 hs2 hs3 hn1 hm1 Hf1.out Hg1.out).mono ?_
  rintro e w4 ⟨rfl, hE4⟩
  replace HE := hide (Ext.trans HE.out hE4)
  clear hE4 hs2 hs3
  go_wp2_with fail
  refine (HA.out _ HE.out).mono ?_
  rintro e w5 ⟨rfl, hs5, hE5⟩
  replace HE := hide (Ext.trans HE.out hE5)
  clear hE5
  go_wp2_with fail
  refine (HB.out _ HE.out).mono ?_
  rintro e w6 ⟨rfl, hs6, hE6⟩
  replace HE := hide (Ext.trans HE.out hE6)
  replace hs5 := hs5.of_all hE6
  clear hE6
  go_wp2_with fail
  refine (implNameSame_any _ _ _ n n f _ _ _ m m g w6 hs5 hs6 hn1 hm1 Hf1.out Hg1.out).mono ?_
  rintro e w7 ⟨rfl, hE7⟩
  replace HE := hide (Ext.trans HE.out hE7)
  replace hs5 := hs5.of_all hE7
  replace hs6 := hs6.of_all hE7
  clear hE7
  generalize nameB n m f g = R at *
  have hR : (R != R) = false := by simp
  go_wp2_with fail
  refine (HA.out _ HE.out).mono ?_
  rintro e w8 ⟨rfl, hs8, hE8⟩
  replace HE := hide (Ext.trans HE.out hE8)
  replace hs5 := hs5.of_all hE8
  replace hs6 := hs6.of_all hE8
  clear hE8
  go_wp2_with fail
  refine (eqStringS_same _ _ _ n n f _ _ _ n w8 hs5 hs8 hn1).mono ?_
  rintro e w9 ⟨rfl, hE9⟩
  replace HE := hide (Ext.trans HE.out hE9)
  replace hs6 := hs6.of_all hE9
  clear hE9 hs5 hs8
  go_wp2_with fail
  refine (HB.out _ HE.out).mono ?_
  rintro e w10 ⟨rfl, hs10, hE10⟩
  replace HE := hide (Ext.trans HE.out hE10)
  replace hs6 := hs6.of_all hE10
  clear hE10
  go_wp2_with fail
  refine (eqStringS_same _ _ _ m m g _ _ _ m w10 hs6 hs10 hm1).mono ?_
  rintro e w11 ⟨rfl, hE11⟩
  replace HE := hide (Ext.trans HE.out hE11)
  clear hE11 hs6 hs10
  go_wp2
  go_ret
  exact ⟨rfl, HE.out⟩

end Go.Proofs.YtdaneanloknkpaaDoor
