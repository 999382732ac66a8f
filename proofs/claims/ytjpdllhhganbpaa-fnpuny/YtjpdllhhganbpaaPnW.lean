/- Walk: the law FnPuny. Written by mkpnw.py. -/
import Derived.Test.YtjpdllhhganbpaaDrX
namespace Go.Proofs.Ytjpdllhhganbpaa
set_option linter.unusedVariables false
set_option linter.unusedSimpArgs false
open Go.RowKit

theorem ext_drewP (w : World) (q : Nat) : Ext w (w.drewN q) := ⟨rfl, rfl, rfl, Nat.le_refl _, fun _ _ => rfl⟩
theorem alike_refl' (f : Nat → Int) (n : Nat) : (n == n && alike f f n) = true := by
  rw [(alike_iff f f n).2 (fun _ _ => rfl)]; simp
theorem list_of (F : Nat → Int) (k : Nat) : ∃ L : List Int, L.length = k ∧ ∀ i, i < k → F i = L.getD i 0 :=
  ⟨(List.range k).map F, by simp, fun i hi => by simp [List.getD_eq_getElem?_getD, hi]⟩

theorem lawPuny_long (a : Option Addr) (n cap : Nat) (w : World) (hn : ¬ n ≤ 1048576) :
    Calls Try.prog 4 #[.slice a n cap] w fun e w' => e = .returned (.bool true) ∧ Below w.heap.size w w' := by
  go_enter Try.func4, Try.ntmps4
  go_wp2_with fail
  refine (big_long a n cap _ hn).mono ?_
  rintro e w1 ⟨rfl, hw⟩
  obtain rfl := hw.symm
  go_wp2
  go_ret
  exact ⟨rfl, Below.refl _ _⟩

set_option maxHeartbeats 6400000 in
set_option maxRecDepth 100000 in
theorem lawPuny_any (a : Option Addr) (b off n cap : Nat) (f : Nat → Int) (w : World) (hs : BSeg w a b off n f) (hB : ∀ i, i < n → 0 ≤ f i ∧ f i ≤ 255) (hn : n ≤ 1048576) :
    Calls Try.prog 4 #[.slice a n cap] w fun e w' => e = .returned (.bool true) ∧ Below w.heap.size w w' := by
  have HT : Hid (∀ W, Ext w W → Calls Try.prog 16 #[.slice a n cap] W fun e w' => ∃ x : ByteArray, e = .returned (.string x) ∧ x.size ≤ 1000 ∧ Ext W w') := fun W h => drawReadPuny_any a b off n cap f W (hs.of_all h) hB hn
  go_enter Try.func4, Try.ntmps4
  go_wp2_with fail
  refine (big_any a n cap _ hn).mono ?_
  rintro e w0 ⟨rfl, hw⟩
  obtain rfl := hw.symm
  go_wp2_with fail
  refine (drawPuny_any a b off n cap f _ hs hB hn).mono ?_
  rintro e w1 ⟨sa, sb, so, k, sc, F, rfl, -, -, hk, hS, hE⟩
  obtain ⟨L, hL, hF⟩ := list_of F k
  subst hL
  have HS := hide (hS.congr hF)
  have HE := hide hE
  clear hS hE hF hw hs hB
  obtain ⟨S, hSd⟩ : ∃ S, punyS L.length (fun i => L.getD i 0) = S := ⟨_, rfl⟩
  obtain ⟨wb, hwd⟩ : ∃ wb, wordB L.length (fun i => L.getD i 0) = wb := ⟨_, rfl⟩
  have HBk : Hid (wb = true → S.size ≤ 60 → rpR S = some L) := by
    intro h1 h2
    have := rp_back L (hwd.trans h1) (by rw [hSd]; exact h2)
    rwa [hSd] at this
  have HP1 : Hid (∀ W, Ext w1 W → Calls Try.prog 13 #[.slice sa L.length sc] W fun e w' => e = .returned (.tuple #[.string S, .bool wb]) ∧ Ext W w') := by
    intro W h
    have := implPuny_any sa sb so L.length sc _ W (HS.out.of_all h) (by omega)
    rw [hSd, hwd] at this
    exact this
  have HP2 : Hid (∀ W, Ext w1 W → Calls Try.prog 14 #[.slice sa L.length sc] W fun e w' => e = .returned (.tuple #[.string S, .bool wb]) ∧ Ext W w') := by
    intro W h
    have := specPuny_any sa sb so L.length sc _ W (HS.out.of_all h) (by omega)
    rw [hSd, hwd] at this
    exact this
  have hsz : S.size ≤ 300 := by rw [← hSd]; exact puny_short _ _
  clear hSd hwd
  go_wp2_with fail
  refine (HP1.out _ (Ext.refl _)).mono ?_
  rintro e w2 ⟨rfl, hE2⟩
  have HE2 := hide hE2
  clear hE2
  go_wp2_with fail
  refine (HP2.out _ HE2.out).mono ?_
  rintro e w3 ⟨rfl, hE3⟩
  replace HE2 := hide (Ext.trans HE2.out hE3)
  clear hE3 HP1 HP2
  cases wb
  · replace HE := hide (Ext.trans HE.out HE2.out)
    clear HE2 HBk
    go_wp2_with fail
    refine (HT.out _ HE.out).mono ?_
    rintro e w7 ⟨x, rfl, hx, hE7⟩
    replace HE := hide (Ext.trans HE.out hE7)
    have HA := hide (fun M (h : rpR x = some M) => rp_again h)
    have HRd := hide (implReadPuny_any x (by omega) w7)
    generalize rpR x = R at *
    clear hE7
    go_wp2_with fail
    refine HRd.out.mono ?_
    rintro e w8 ⟨v, rfl, hO, hE8⟩
    replace HE := hide (Ext.trans HE.out hE8)
    obtain ⟨xa, xg, xc, rfl, -, -, -, hX⟩ := own_of_wl hO
    have HX := hide hX
    clear hE8 hO hX HRd
    cases R with
    | none =>
      go_wp2
      go_ret
      exact ⟨rfl, HE.out⟩
    | some M =>
      obtain ⟨hA1, hA2⟩ := HA.out M rfl
      have HPx := hide (implPuny_any xa xg 0 M.length xc (fun i => M.getD i 0) w8 HX.out.toSeg (by have := (word_is hA1).2.1; omega))
      rw [hA1, hA2] at HPx
      have hqx : (x.toList == x.toList) = true := eqS_refl x
      clear hA1 hA2 HA
      go_wp2_with fail
      refine HPx.out.mono ?_
      rintro e w9 ⟨rfl, hE9⟩
      replace HE := hide (Ext.trans HE.out hE9)
      clear hE9 HPx
      go_wp2
      go_ret
      exact ⟨rfl, HE.out⟩
  · by_cases h60 : S.size ≤ 60
    · have h60' : (S.size : Int) ≤ 60 := by omega
      have HRb := hide (implReadPuny_any S (by omega) w3)
      rw [HBk.out rfl h60] at HRb
      go_wp2_with fail
      refine HRb.out.mono ?_
      rintro e w4 ⟨v, rfl, hO, hE4⟩
      replace HE2 := hide (Ext.trans HE2.out hE4)
      clear hE4 HRb HBk
      obtain ⟨ya, yg, yc, rfl, -, -, -, hY⟩ := own_of_wl (L := L) hO
      have HSm := hide (sameInts_any ya yg 0 L.length yc _ sa sb so L.length sc _ w4 hY.toSeg (HS.out.of_all HE2.out) (by omega))
      rw [alike_refl'] at HSm
      clear hO hY
      go_wp2_with fail
      refine HSm.out.mono ?_
      rintro e w5 ⟨rfl, q5, rfl⟩
      replace HE := hide (Ext.trans HE.out (Ext.trans HE2.out (ext_drewP w4 q5)))
      clear HE2 HSm HS
      generalize w4.drewN q5 = w6 at *
      go_wp2_with fail
      refine (HT.out _ HE.out).mono ?_
      rintro e w7 ⟨x, rfl, hx, hE7⟩
      replace HE := hide (Ext.trans HE.out hE7)
      have HA := hide (fun M (h : rpR x = some M) => rp_again h)
      have HRd := hide (implReadPuny_any x (by omega) w7)
      generalize rpR x = R at *
      clear hE7
      go_wp2_with fail
      refine HRd.out.mono ?_
      rintro e w8 ⟨v, rfl, hO, hE8⟩
      replace HE := hide (Ext.trans HE.out hE8)
      obtain ⟨xa, xg, xc, rfl, -, -, -, hX⟩ := own_of_wl hO
      have HX := hide hX
      clear hE8 hO hX HRd
      cases R with
      | none =>
        go_wp2
        go_ret
        exact ⟨rfl, HE.out⟩
      | some M =>
        obtain ⟨hA1, hA2⟩ := HA.out M rfl
        have HPx := hide (implPuny_any xa xg 0 M.length xc (fun i => M.getD i 0) w8 HX.out.toSeg (by have := (word_is hA1).2.1; omega))
        rw [hA1, hA2] at HPx
        have hqx : (x.toList == x.toList) = true := eqS_refl x
        clear hA1 hA2 HA
        go_wp2_with fail
        refine HPx.out.mono ?_
        rintro e w9 ⟨rfl, hE9⟩
        replace HE := hide (Ext.trans HE.out hE9)
        clear hE9 HPx
        go_wp2
        go_ret
        exact ⟨rfl, HE.out⟩
    · have h60' : ¬ (S.size : Int) ≤ 60 := by omega
      replace HE := hide (Ext.trans HE.out HE2.out)
      clear HE2 HBk
      go_wp2_with fail
      refine (HT.out _ HE.out).mono ?_
      rintro e w7 ⟨x, rfl, hx, hE7⟩
      replace HE := hide (Ext.trans HE.out hE7)
      have HA := hide (fun M (h : rpR x = some M) => rp_again h)
      have HRd := hide (implReadPuny_any x (by omega) w7)
      generalize rpR x = R at *
      clear hE7
      go_wp2_with fail
      refine HRd.out.mono ?_
      rintro e w8 ⟨v, rfl, hO, hE8⟩
      replace HE := hide (Ext.trans HE.out hE8)
      obtain ⟨xa, xg, xc, rfl, -, -, -, hX⟩ := own_of_wl hO
      have HX := hide hX
      clear hE8 hO hX HRd
      cases R with
      | none =>
        go_wp2
        go_ret
        exact ⟨rfl, HE.out⟩
      | some M =>
        obtain ⟨hA1, hA2⟩ := HA.out M rfl
        have HPx := hide (implPuny_any xa xg 0 M.length xc (fun i => M.getD i 0) w8 HX.out.toSeg (by have := (word_is hA1).2.1; omega))
        rw [hA1, hA2] at HPx
        have hqx : (x.toList == x.toList) = true := eqS_refl x
        clear hA1 hA2 HA
        go_wp2_with fail
        refine HPx.out.mono ?_
        rintro e w9 ⟨rfl, hE9⟩
        replace HE := hide (Ext.trans HE.out hE9)
        clear hE9 HPx
        go_wp2
        go_ret
        exact ⟨rfl, HE.out⟩

end Go.Proofs.Ytjpdllhhganbpaa
