/- The walk of the law FnStrict, over what its draw gives. -/
import Derived.Test.YtmcdikbcmikihaaDoorSq02
import Derived.Test.YtmcdikbcmikihaaDoorSq07
import Derived.Test.YtmcdikbcmikihaaDoorSq21
import Derived.Test.YtmcdikbcmikihaaDoorSq24
namespace Go.Proofs.YtmcdikbcmikihaaDoor

section
set_option linter.unusedVariables false
set_option linter.unusedSimpArgs false

open Go.RowKit

/-- Some bytes. -/
def GivesDb (w : World) (e : Ending) (w' : World) : Prop := ∃ a b off n cap f, e = .returned (.slice a n cap) ∧ BSeg w' a b off n f ∧ (∀ i, i < n → 0 ≤ f i ∧ f i < 256) ∧ n ≤ cap ∧ cap ≤ 9223372036854775807 ∧ Ext w w'

theorem nums_byF (f : Nat → Int) (n : Nat) : byF f 0 n = nums f n := by
  unfold byF nums
  apply List.map_congr_left
  intro i _
  rw [Nat.zero_add]

set_option maxHeartbeats 6400000 in
set_option maxRecDepth 100000 in
theorem lawStrict_at (a : Option Addr) (n cap : Nat) (w : World) (hn : n ≤ 1048576) (hg : Hdl w) (HD : Hid (Calls Tryd.prog 21 #[.slice a n cap] w (GivesDb w))) :
    Calls Tryd.prog 5 #[.slice a n cap] w fun e w' => e = .returned (.bool true) ∧ Ext w w' := by
  have Hg := hide hg
  clear hg
  go_enter Tryd.func5, Tryd.ntmps5
  go_wp2_with fail
  refine (big_any a n cap w hn).mono ?_
  rintro e w1 ⟨rfl, hw⟩
  subst hw
  go_wp2_with fail
  refine HD.out.mono ?_
  rintro e w2 ⟨ba, bb, boff, bn, bc, f, rfl, hs, hb, hbc, hbc2, hE⟩
  have Hs := hide hs
  have Hb := hide hb
  have HE := hide hE
  have HR := hide (implReadDer_any ba bb boff bn bc f w2 hs hb hbc hbc2 (Hg.out.of_ext hE))
  obtain ⟨A, hA⟩ : ∃ A, rdA f bn = A := ⟨_, rfl⟩
  have HF := hide (rdA_fault f bn)
  have HB := hide (rdA_back f bn hb)
  have HW := hide (rdA_wt f bn)
  rw [hA] at HR HF HB HW
  clear hs hb hE hA HD
  go_wp2_with fail
  refine HR.out.mono ?_
  rintro e w3 ⟨v, L, rfl, hL, hct, hE3⟩
  replace Hs := hide (Hs.out.of_all hE3)
  replace HE := hide (Ext.trans HE.out hE3)
  clear hE3 HR
  obtain ⟨C, cc, pp⟩ := A
  simp only at HF HB HW hct ⊢
  obtain ⟨va, S, vcap, rfl, hI⟩ := hL.iow (fun t ht => by
    have h1 : ct t ∈ C := by rw [← hct]; exact List.mem_map.2 ⟨t, ht, rfl⟩
    have h2 := (wt_len C).2 _ h1
    have h3 : wt C ≤ 4000 := HW.out
    rw [ct_len] at h2
    omega)
  by_cases hc : cc = 0
  · obtain ⟨hp, hB, hWl⟩ := HB.out hc L hct
    have hp' : pp = 0 := hp
    subst hp'
    subst hc
    have hlen : L.length ≤ 4000 := by
      have h1 := (wt_len C).1
      have h3 : wt C ≤ 4000 := HW.out
      have h2 : L.length = C.length := by rw [← hct, List.length_map]
      omega
    have hsm : ∀ i, i < L.length → (L.getD i dI).len ≤ 4000 := fun i hi => by
      have h1 : ct (L.getD i dI) ∈ C := by
        rw [← hct, List.getD_eq_getElem?_getD, List.getElem?_eq_getElem hi]
        exact List.mem_map.2 ⟨_, List.getElem_mem hi, rfl⟩
      have h2 := (wt_len C).2 _ h1
      have h3 : wt C ≤ 4000 := HW.out
      rw [ct_len] at h2
      omega
    have hkid : ∀ i, i < L.length → (L.getD i dI).kid ≤ 9223372036854775807 := fun i hi => by
      have ht : treeV (fun i => L.getD i dI) L.length = true := by
        have := hB
        unfold wdB at this
        simp only [Bool.and_eq_true] at this
        exact this.1
      unfold treeV at ht
      rw [decide_eq_true_eq] at ht
      have h5 : (L.getD i dI).kid ≤ 300 := (ht.2.2.1 i hi).2.2.2.2.1
      show (L.getD i dI).kid ≤ _
      omega
    have HWr := hide (implWriteDer_any va S 0 L.length vcap (fun i => L.getD i dI) w3 hI.toISeg (by omega) (fun i hi => by have := hsm i hi; show (L.getD i dI).len ≤ _; omega) hkid)
    rw [hB, hWl] at HWr
    have hcc : ((0 : Int) != 0) = false := by simp
    clear hI hL hct HF HB HW hB hWl hp hsm hkid
    generalize L.length = LL at *
    go_wp2_with fail
    refine HWr.out.mono ?_
    rintro e w4 ⟨v4, rfl, hO4, hE4⟩
    replace Hs := hide (Hs.out.of_all hE4)
    replace HE := hide (Ext.trans HE.out hE4)
    have hO5 : w4.ownsRow w3.heap.size 5 1 v4 bn (byts f bn) := by
      have := hO4
      rw [byF_len, nums_byF] at this
      rw [byts_bl]
      exact this
    obtain ⟨xa, xg, xc, rfl, -, -, -, hxB⟩ := owns_seg hO5
    have k1 := conv_seg (cap := xc) hxB.toBSeg
    have k2 := conv_seg (cap := bc) Hs.out
    clear hO4 hO5 hE4 hxB HWr
    go_wp2
    go_ret
    exact ⟨rfl, HE.out⟩
  · obtain ⟨h1, h2, h3⟩ := HF.out hc
    have h1' : C = [] := h1
    have h2' : 0 ≤ pp := h2
    have h3' : pp ≤ (bn : Int) := h3
    have hl0 : L.length = 0 := by rw [← List.length_map (f := ct), hct, h1']; rfl
    rw [hl0]
    have hcc : (cc != 0) = true := by simpa using hc
    clear hI hL hct HF HB HW h1 h2 h3
    go_wp2
    go_ret
    exact ⟨rfl, HE.out⟩
end

end Go.Proofs.YtmcdikbcmikihaaDoor
