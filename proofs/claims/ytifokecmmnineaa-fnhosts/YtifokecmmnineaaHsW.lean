/- The walk of the law FnHosts (written by mkhsw.py). -/
import Derived.Test.YtifokecmmnineaaHsN
import Derived.Test.YtifokecmmnineaaDrS
namespace Go.Proofs.Ytifokecmmnineaa
set_option linter.unusedVariables false
set_option linter.unusedSimpArgs false
open Go.RowKit

theorem low_b : ((strOfNums (nums (lowF ⟨#[65, 46, 90]⟩) 3)).toList == [97, 46, 122]) = true := by
  have h : strOfNums (nums (lowF ⟨#[65, 46, 90]⟩) 3) = ⟨#[97, 46, 122]⟩ := low_a
  rw [h, ByteArray.toList_eq]
  rfl

theorem neq_S (a b : ByteArray) : (!(a.toList == b.toList)) = !eqS a b := rfl

set_option maxHeartbeats 6400000 in
set_option maxRecDepth 100000 in
theorem lawHosts_any (a : Option Addr) (b off n cap : Nat) (f : Nat → Int) (w : World) (hs : BSeg w a b off n f) (hB : ∀ i, i < n → 0 ≤ f i ∧ f i ≤ 255) :
    Calls Try.prog 8 #[.slice a n cap] w fun e w' => e = .returned (.bool true) ∧ Below w.heap.size w w' := by
  by_cases hn : n ≤ 1048576
  · have HMat : Hid (∀ p h : ByteArray, p.size ≤ 2097152 → h.size ≤ 2097152 → ∀ w, Calls Try.prog 16 #[.string p, .string h] w fun e w' => e = .returned (.bool (matB p h)) ∧ Ext w w') := fun p h h1 h2 w => implHostMatch_any p h h1 h2 w
    have HUnd : Hid (∀ p h : ByteArray, p.size ≤ 2097152 → h.size ≤ 2097152 → ∀ w, Calls Try.prog 18 #[.string p, .string h] w fun e w' => e = .returned (.bool (undB p h)) ∧ Ext w w') := fun p h h1 h2 w => implUnder_any p h h1 h2 w
    have HPat : Hid (∀ p : ByteArray, p.size ≤ 2097152 → ∀ w, Calls Try.prog 14 #[.string p] w fun e w' => e = .returned (.bool (patB p)) ∧ Ext w w') := fun p h1 w => implPatternOk_any p h1 w
    have HHos : Hid (∀ p : ByteArray, p.size ≤ 2097152 → ∀ w, Calls Try.prog 12 #[.string p] w fun e w' => e = .returned (.bool (hostB p)) ∧ Ext w w') := fun p h1 w => implHostOk_any p h1 w
    have HLow : Hid (∀ p : ByteArray, p.size ≤ 1048576 → ∀ w, Calls Try.prog 10 #[.string p] w fun e w' => e = .returned (.string (strOfNums (nums (lowF p) p.size))) ∧ Ext w w') := fun p h1 w => implLower_any p h1 w
    go_enter Try.func8, Try.ntmps8
    go_wp2_with fail
    refine (big_any a n cap w hn).mono ?_
    rintro e w0 ⟨rfl, rfl⟩
    go_wp2_with fail
    refine (drawHostMatch_any a b off n cap f _ hs hB hn).mono ?_
    rintro e w1 ⟨p, h, rfl, hp, hh, hE⟩
    have HE := hide hE
    clear hE
    have pq : ((p.extract 0 2).toList == [42, 46]) = starE p := by unfold starE eqS; rw [ByteArray.toList_eq ⟨#[42, 46]⟩]
    cases hm : matB p h
    · cases hh2 : hostB h
      · skip
        go_wp2_with (first
            | (go_at_call 16; refine (HMat.out _ _ (by (try simp only [ByteArray.size_extract, ByteArray.size_append', ByteArray.size_mk']); (try simp); (try omega)) (by (try simp only [ByteArray.size_extract, ByteArray.size_append', ByteArray.size_mk']); (try simp); (try omega)) _).mono ?_; rintro e wq ⟨rfl, hE⟩; replace HE := hide (Ext.trans HE.out hE); clear hE)
            | (go_at_call 14; refine (HPat.out _ (by (try simp only [ByteArray.size_extract, ByteArray.size_append', ByteArray.size_mk']); (try simp); (try omega)) _).mono ?_; rintro e wq ⟨rfl, hE⟩; replace HE := hide (Ext.trans HE.out hE); clear hE)
            | (go_at_call 12; refine (HHos.out _ (by (try simp only [ByteArray.size_extract, ByteArray.size_append', ByteArray.size_mk']); (try simp); (try omega)) _).mono ?_; rintro e wq ⟨rfl, hE⟩; replace HE := hide (Ext.trans HE.out hE); clear hE)
            | (go_at_call 18; refine (HUnd.out _ _ (by (try simp only [ByteArray.size_extract, ByteArray.size_append', ByteArray.size_mk']); (try simp); (try omega)) (by (try simp only [ByteArray.size_extract, ByteArray.size_append', ByteArray.size_mk']); (try simp); (try omega)) _).mono ?_; rintro e wq ⟨rfl, hE⟩; replace HE := hide (Ext.trans HE.out hE); clear hE)
            | (go_at_call 10; refine (HLow.out _ (by (try simp only [ByteArray.size_extract, ByteArray.size_append', ByteArray.size_mk']); (try simp); (try omega)) _).mono ?_; rintro e wq ⟨rfl, hE⟩; replace HE := hide (Ext.trans HE.out hE); clear hE))
        refine (drawUnder_any a b off n cap f _ (hs.of_all HE.out) hB hn).mono ?_
        rintro e wd ⟨x, y, rfl, hx, hy, hE⟩
        replace HE := hide (Ext.trans HE.out hE)
        clear hE
        have x1 := host_a
        have x2 := host_none
        have HN : Hid (∀ _ : undB x y = true, ∀ _ : eqS x y = false, undB y x = false) := fun h1 h2 => und_not h1 h2
        have xy : (x.toList == y.toList) = eqS x y := rfl
        cases u1 : undB x y
        · skip
          go_wp2_with (first
              | (go_at_call 16; refine (HMat.out _ _ (by (try simp only [ByteArray.size_extract, ByteArray.size_append', ByteArray.size_mk']); (try simp); (try omega)) (by (try simp only [ByteArray.size_extract, ByteArray.size_append', ByteArray.size_mk']); (try simp); (try omega)) _).mono ?_; rintro e wq ⟨rfl, hE⟩; replace HE := hide (Ext.trans HE.out hE); clear hE)
              | (go_at_call 14; refine (HPat.out _ (by (try simp only [ByteArray.size_extract, ByteArray.size_append', ByteArray.size_mk']); (try simp); (try omega)) _).mono ?_; rintro e wq ⟨rfl, hE⟩; replace HE := hide (Ext.trans HE.out hE); clear hE)
              | (go_at_call 12; refine (HHos.out _ (by (try simp only [ByteArray.size_extract, ByteArray.size_append', ByteArray.size_mk']); (try simp); (try omega)) _).mono ?_; rintro e wq ⟨rfl, hE⟩; replace HE := hide (Ext.trans HE.out hE); clear hE)
              | (go_at_call 18; refine (HUnd.out _ _ (by (try simp only [ByteArray.size_extract, ByteArray.size_append', ByteArray.size_mk']); (try simp); (try omega)) (by (try simp only [ByteArray.size_extract, ByteArray.size_append', ByteArray.size_mk']); (try simp); (try omega)) _).mono ?_; rintro e wq ⟨rfl, hE⟩; replace HE := hide (Ext.trans HE.out hE); clear hE)
              | (go_at_call 10; refine (HLow.out _ (by (try simp only [ByteArray.size_extract, ByteArray.size_append', ByteArray.size_mk']); (try simp); (try omega)) _).mono ?_; rintro e wq ⟨rfl, hE⟩; replace HE := hide (Ext.trans HE.out hE); clear hE))
          go_ret
          exact ⟨ret_bool low_b, HE.out⟩
        · cases u2 : eqS x y
          · have u3 := HN.out u1 u2
            rw [u2] at xy
            go_wp2_with (first
                | (go_at_call 16; refine (HMat.out _ _ (by (try simp only [ByteArray.size_extract, ByteArray.size_append', ByteArray.size_mk']); (try simp); (try omega)) (by (try simp only [ByteArray.size_extract, ByteArray.size_append', ByteArray.size_mk']); (try simp); (try omega)) _).mono ?_; rintro e wq ⟨rfl, hE⟩; replace HE := hide (Ext.trans HE.out hE); clear hE)
                | (go_at_call 14; refine (HPat.out _ (by (try simp only [ByteArray.size_extract, ByteArray.size_append', ByteArray.size_mk']); (try simp); (try omega)) _).mono ?_; rintro e wq ⟨rfl, hE⟩; replace HE := hide (Ext.trans HE.out hE); clear hE)
                | (go_at_call 12; refine (HHos.out _ (by (try simp only [ByteArray.size_extract, ByteArray.size_append', ByteArray.size_mk']); (try simp); (try omega)) _).mono ?_; rintro e wq ⟨rfl, hE⟩; replace HE := hide (Ext.trans HE.out hE); clear hE)
                | (go_at_call 18; refine (HUnd.out _ _ (by (try simp only [ByteArray.size_extract, ByteArray.size_append', ByteArray.size_mk']); (try simp); (try omega)) (by (try simp only [ByteArray.size_extract, ByteArray.size_append', ByteArray.size_mk']); (try simp); (try omega)) _).mono ?_; rintro e wq ⟨rfl, hE⟩; replace HE := hide (Ext.trans HE.out hE); clear hE)
                | (go_at_call 10; refine (HLow.out _ (by (try simp only [ByteArray.size_extract, ByteArray.size_append', ByteArray.size_mk']); (try simp); (try omega)) _).mono ?_; rintro e wq ⟨rfl, hE⟩; replace HE := hide (Ext.trans HE.out hE); clear hE))
            go_ret
            exact ⟨ret_bool low_b, HE.out⟩
          · rw [u2] at xy
            go_wp2_with (first
                | (go_at_call 16; refine (HMat.out _ _ (by (try simp only [ByteArray.size_extract, ByteArray.size_append', ByteArray.size_mk']); (try simp); (try omega)) (by (try simp only [ByteArray.size_extract, ByteArray.size_append', ByteArray.size_mk']); (try simp); (try omega)) _).mono ?_; rintro e wq ⟨rfl, hE⟩; replace HE := hide (Ext.trans HE.out hE); clear hE)
                | (go_at_call 14; refine (HPat.out _ (by (try simp only [ByteArray.size_extract, ByteArray.size_append', ByteArray.size_mk']); (try simp); (try omega)) _).mono ?_; rintro e wq ⟨rfl, hE⟩; replace HE := hide (Ext.trans HE.out hE); clear hE)
                | (go_at_call 12; refine (HHos.out _ (by (try simp only [ByteArray.size_extract, ByteArray.size_append', ByteArray.size_mk']); (try simp); (try omega)) _).mono ?_; rintro e wq ⟨rfl, hE⟩; replace HE := hide (Ext.trans HE.out hE); clear hE)
                | (go_at_call 18; refine (HUnd.out _ _ (by (try simp only [ByteArray.size_extract, ByteArray.size_append', ByteArray.size_mk']); (try simp); (try omega)) (by (try simp only [ByteArray.size_extract, ByteArray.size_append', ByteArray.size_mk']); (try simp); (try omega)) _).mono ?_; rintro e wq ⟨rfl, hE⟩; replace HE := hide (Ext.trans HE.out hE); clear hE)
                | (go_at_call 10; refine (HLow.out _ (by (try simp only [ByteArray.size_extract, ByteArray.size_append', ByteArray.size_mk']); (try simp); (try omega)) _).mono ?_; rintro e wq ⟨rfl, hE⟩; replace HE := hide (Ext.trans HE.out hE); clear hE))
            go_ret
            exact ⟨ret_bool low_b, HE.out⟩
      · have k1 := (host_self hh2).1
        have k2 := (host_self hh2).2
        have k3 := host_lower hh2
        go_wp2_with (first
            | (go_at_call 16; refine (HMat.out _ _ (by (try simp only [ByteArray.size_extract, ByteArray.size_append', ByteArray.size_mk']); (try simp); (try omega)) (by (try simp only [ByteArray.size_extract, ByteArray.size_append', ByteArray.size_mk']); (try simp); (try omega)) _).mono ?_; rintro e wq ⟨rfl, hE⟩; replace HE := hide (Ext.trans HE.out hE); clear hE)
            | (go_at_call 14; refine (HPat.out _ (by (try simp only [ByteArray.size_extract, ByteArray.size_append', ByteArray.size_mk']); (try simp); (try omega)) _).mono ?_; rintro e wq ⟨rfl, hE⟩; replace HE := hide (Ext.trans HE.out hE); clear hE)
            | (go_at_call 12; refine (HHos.out _ (by (try simp only [ByteArray.size_extract, ByteArray.size_append', ByteArray.size_mk']); (try simp); (try omega)) _).mono ?_; rintro e wq ⟨rfl, hE⟩; replace HE := hide (Ext.trans HE.out hE); clear hE)
            | (go_at_call 18; refine (HUnd.out _ _ (by (try simp only [ByteArray.size_extract, ByteArray.size_append', ByteArray.size_mk']); (try simp); (try omega)) (by (try simp only [ByteArray.size_extract, ByteArray.size_append', ByteArray.size_mk']); (try simp); (try omega)) _).mono ?_; rintro e wq ⟨rfl, hE⟩; replace HE := hide (Ext.trans HE.out hE); clear hE)
            | (go_at_call 10; refine (HLow.out _ (by (try simp only [ByteArray.size_extract, ByteArray.size_append', ByteArray.size_mk']); (try simp); (try omega)) _).mono ?_; rintro e wq ⟨rfl, hE⟩; replace HE := hide (Ext.trans HE.out hE); clear hE))
        refine (drawUnder_any a b off n cap f _ (hs.of_all HE.out) hB hn).mono ?_
        rintro e wd ⟨x, y, rfl, hx, hy, hE⟩
        replace HE := hide (Ext.trans HE.out hE)
        clear hE
        have x1 := host_a
        have x2 := host_none
        have HN : Hid (∀ _ : undB x y = true, ∀ _ : eqS x y = false, undB y x = false) := fun h1 h2 => und_not h1 h2
        have xy : (x.toList == y.toList) = eqS x y := rfl
        cases u1 : undB x y
        · skip
          go_wp2_with (first
              | (go_at_call 16; refine (HMat.out _ _ (by (try simp only [ByteArray.size_extract, ByteArray.size_append', ByteArray.size_mk']); (try simp); (try omega)) (by (try simp only [ByteArray.size_extract, ByteArray.size_append', ByteArray.size_mk']); (try simp); (try omega)) _).mono ?_; rintro e wq ⟨rfl, hE⟩; replace HE := hide (Ext.trans HE.out hE); clear hE)
              | (go_at_call 14; refine (HPat.out _ (by (try simp only [ByteArray.size_extract, ByteArray.size_append', ByteArray.size_mk']); (try simp); (try omega)) _).mono ?_; rintro e wq ⟨rfl, hE⟩; replace HE := hide (Ext.trans HE.out hE); clear hE)
              | (go_at_call 12; refine (HHos.out _ (by (try simp only [ByteArray.size_extract, ByteArray.size_append', ByteArray.size_mk']); (try simp); (try omega)) _).mono ?_; rintro e wq ⟨rfl, hE⟩; replace HE := hide (Ext.trans HE.out hE); clear hE)
              | (go_at_call 18; refine (HUnd.out _ _ (by (try simp only [ByteArray.size_extract, ByteArray.size_append', ByteArray.size_mk']); (try simp); (try omega)) (by (try simp only [ByteArray.size_extract, ByteArray.size_append', ByteArray.size_mk']); (try simp); (try omega)) _).mono ?_; rintro e wq ⟨rfl, hE⟩; replace HE := hide (Ext.trans HE.out hE); clear hE)
              | (go_at_call 10; refine (HLow.out _ (by (try simp only [ByteArray.size_extract, ByteArray.size_append', ByteArray.size_mk']); (try simp); (try omega)) _).mono ?_; rintro e wq ⟨rfl, hE⟩; replace HE := hide (Ext.trans HE.out hE); clear hE))
          go_ret
          exact ⟨ret_bool low_b, HE.out⟩
        · cases u2 : eqS x y
          · have u3 := HN.out u1 u2
            rw [u2] at xy
            go_wp2_with (first
                | (go_at_call 16; refine (HMat.out _ _ (by (try simp only [ByteArray.size_extract, ByteArray.size_append', ByteArray.size_mk']); (try simp); (try omega)) (by (try simp only [ByteArray.size_extract, ByteArray.size_append', ByteArray.size_mk']); (try simp); (try omega)) _).mono ?_; rintro e wq ⟨rfl, hE⟩; replace HE := hide (Ext.trans HE.out hE); clear hE)
                | (go_at_call 14; refine (HPat.out _ (by (try simp only [ByteArray.size_extract, ByteArray.size_append', ByteArray.size_mk']); (try simp); (try omega)) _).mono ?_; rintro e wq ⟨rfl, hE⟩; replace HE := hide (Ext.trans HE.out hE); clear hE)
                | (go_at_call 12; refine (HHos.out _ (by (try simp only [ByteArray.size_extract, ByteArray.size_append', ByteArray.size_mk']); (try simp); (try omega)) _).mono ?_; rintro e wq ⟨rfl, hE⟩; replace HE := hide (Ext.trans HE.out hE); clear hE)
                | (go_at_call 18; refine (HUnd.out _ _ (by (try simp only [ByteArray.size_extract, ByteArray.size_append', ByteArray.size_mk']); (try simp); (try omega)) (by (try simp only [ByteArray.size_extract, ByteArray.size_append', ByteArray.size_mk']); (try simp); (try omega)) _).mono ?_; rintro e wq ⟨rfl, hE⟩; replace HE := hide (Ext.trans HE.out hE); clear hE)
                | (go_at_call 10; refine (HLow.out _ (by (try simp only [ByteArray.size_extract, ByteArray.size_append', ByteArray.size_mk']); (try simp); (try omega)) _).mono ?_; rintro e wq ⟨rfl, hE⟩; replace HE := hide (Ext.trans HE.out hE); clear hE))
            go_ret
            exact ⟨ret_bool low_b, HE.out⟩
          · rw [u2] at xy
            go_wp2_with (first
                | (go_at_call 16; refine (HMat.out _ _ (by (try simp only [ByteArray.size_extract, ByteArray.size_append', ByteArray.size_mk']); (try simp); (try omega)) (by (try simp only [ByteArray.size_extract, ByteArray.size_append', ByteArray.size_mk']); (try simp); (try omega)) _).mono ?_; rintro e wq ⟨rfl, hE⟩; replace HE := hide (Ext.trans HE.out hE); clear hE)
                | (go_at_call 14; refine (HPat.out _ (by (try simp only [ByteArray.size_extract, ByteArray.size_append', ByteArray.size_mk']); (try simp); (try omega)) _).mono ?_; rintro e wq ⟨rfl, hE⟩; replace HE := hide (Ext.trans HE.out hE); clear hE)
                | (go_at_call 12; refine (HHos.out _ (by (try simp only [ByteArray.size_extract, ByteArray.size_append', ByteArray.size_mk']); (try simp); (try omega)) _).mono ?_; rintro e wq ⟨rfl, hE⟩; replace HE := hide (Ext.trans HE.out hE); clear hE)
                | (go_at_call 18; refine (HUnd.out _ _ (by (try simp only [ByteArray.size_extract, ByteArray.size_append', ByteArray.size_mk']); (try simp); (try omega)) (by (try simp only [ByteArray.size_extract, ByteArray.size_append', ByteArray.size_mk']); (try simp); (try omega)) _).mono ?_; rintro e wq ⟨rfl, hE⟩; replace HE := hide (Ext.trans HE.out hE); clear hE)
                | (go_at_call 10; refine (HLow.out _ (by (try simp only [ByteArray.size_extract, ByteArray.size_append', ByteArray.size_mk']); (try simp); (try omega)) _).mono ?_; rintro e wq ⟨rfl, hE⟩; replace HE := hide (Ext.trans HE.out hE); clear hE))
            go_ret
            exact ⟨ret_bool low_b, HE.out⟩
    · have hpat : patB p = true := by unfold matB at hm; simp only [Bool.and_eq_true] at hm; exact hm.1
      have hh2 : hostB h = true := by unfold matB at hm; simp only [Bool.and_eq_true] at hm; exact hm.2.1
      have k1 := (host_self hh2).1
      have k2 := (host_self hh2).2
      have k3 := host_lower hh2
      have Hst := hide (star_of_pat hpat)
      by_cases h2 : 2 < p.size
      · have g2 : (2 : Int) < (p.size : Int) := by omega
        have g3 : (2 : Int) ≤ (p.size : Int) := by omega
        cases hst : starE p
        · rw [hst] at pq
          go_wp2_with (first
              | (go_at_call 16; refine (HMat.out _ _ (by (try simp only [ByteArray.size_extract, ByteArray.size_append', ByteArray.size_mk']); (try simp); (try omega)) (by (try simp only [ByteArray.size_extract, ByteArray.size_append', ByteArray.size_mk']); (try simp); (try omega)) _).mono ?_; rintro e wq ⟨rfl, hE⟩; replace HE := hide (Ext.trans HE.out hE); clear hE)
              | (go_at_call 14; refine (HPat.out _ (by (try simp only [ByteArray.size_extract, ByteArray.size_append', ByteArray.size_mk']); (try simp); (try omega)) _).mono ?_; rintro e wq ⟨rfl, hE⟩; replace HE := hide (Ext.trans HE.out hE); clear hE)
              | (go_at_call 12; refine (HHos.out _ (by (try simp only [ByteArray.size_extract, ByteArray.size_append', ByteArray.size_mk']); (try simp); (try omega)) _).mono ?_; rintro e wq ⟨rfl, hE⟩; replace HE := hide (Ext.trans HE.out hE); clear hE)
              | (go_at_call 18; refine (HUnd.out _ _ (by (try simp only [ByteArray.size_extract, ByteArray.size_append', ByteArray.size_mk']); (try simp); (try omega)) (by (try simp only [ByteArray.size_extract, ByteArray.size_append', ByteArray.size_mk']); (try simp); (try omega)) _).mono ?_; rintro e wq ⟨rfl, hE⟩; replace HE := hide (Ext.trans HE.out hE); clear hE)
              | (go_at_call 10; refine (HLow.out _ (by (try simp only [ByteArray.size_extract, ByteArray.size_append', ByteArray.size_mk']); (try simp); (try omega)) _).mono ?_; rintro e wq ⟨rfl, hE⟩; replace HE := hide (Ext.trans HE.out hE); clear hE))
          refine (drawUnder_any a b off n cap f _ (hs.of_all HE.out) hB hn).mono ?_
          rintro e wd ⟨x, y, rfl, hx, hy, hE⟩
          replace HE := hide (Ext.trans HE.out hE)
          clear hE
          have x1 := host_a
          have x2 := host_none
          have HN : Hid (∀ _ : undB x y = true, ∀ _ : eqS x y = false, undB y x = false) := fun h1 h2 => und_not h1 h2
          have xy : (x.toList == y.toList) = eqS x y := rfl
          cases u1 : undB x y
          · skip
            go_wp2_with (first
                | (go_at_call 16; refine (HMat.out _ _ (by (try simp only [ByteArray.size_extract, ByteArray.size_append', ByteArray.size_mk']); (try simp); (try omega)) (by (try simp only [ByteArray.size_extract, ByteArray.size_append', ByteArray.size_mk']); (try simp); (try omega)) _).mono ?_; rintro e wq ⟨rfl, hE⟩; replace HE := hide (Ext.trans HE.out hE); clear hE)
                | (go_at_call 14; refine (HPat.out _ (by (try simp only [ByteArray.size_extract, ByteArray.size_append', ByteArray.size_mk']); (try simp); (try omega)) _).mono ?_; rintro e wq ⟨rfl, hE⟩; replace HE := hide (Ext.trans HE.out hE); clear hE)
                | (go_at_call 12; refine (HHos.out _ (by (try simp only [ByteArray.size_extract, ByteArray.size_append', ByteArray.size_mk']); (try simp); (try omega)) _).mono ?_; rintro e wq ⟨rfl, hE⟩; replace HE := hide (Ext.trans HE.out hE); clear hE)
                | (go_at_call 18; refine (HUnd.out _ _ (by (try simp only [ByteArray.size_extract, ByteArray.size_append', ByteArray.size_mk']); (try simp); (try omega)) (by (try simp only [ByteArray.size_extract, ByteArray.size_append', ByteArray.size_mk']); (try simp); (try omega)) _).mono ?_; rintro e wq ⟨rfl, hE⟩; replace HE := hide (Ext.trans HE.out hE); clear hE)
                | (go_at_call 10; refine (HLow.out _ (by (try simp only [ByteArray.size_extract, ByteArray.size_append', ByteArray.size_mk']); (try simp); (try omega)) _).mono ?_; rintro e wq ⟨rfl, hE⟩; replace HE := hide (Ext.trans HE.out hE); clear hE))
            go_ret
            exact ⟨ret_bool low_b, HE.out⟩
          · cases u2 : eqS x y
            · have u3 := HN.out u1 u2
              rw [u2] at xy
              go_wp2_with (first
                  | (go_at_call 16; refine (HMat.out _ _ (by (try simp only [ByteArray.size_extract, ByteArray.size_append', ByteArray.size_mk']); (try simp); (try omega)) (by (try simp only [ByteArray.size_extract, ByteArray.size_append', ByteArray.size_mk']); (try simp); (try omega)) _).mono ?_; rintro e wq ⟨rfl, hE⟩; replace HE := hide (Ext.trans HE.out hE); clear hE)
                  | (go_at_call 14; refine (HPat.out _ (by (try simp only [ByteArray.size_extract, ByteArray.size_append', ByteArray.size_mk']); (try simp); (try omega)) _).mono ?_; rintro e wq ⟨rfl, hE⟩; replace HE := hide (Ext.trans HE.out hE); clear hE)
                  | (go_at_call 12; refine (HHos.out _ (by (try simp only [ByteArray.size_extract, ByteArray.size_append', ByteArray.size_mk']); (try simp); (try omega)) _).mono ?_; rintro e wq ⟨rfl, hE⟩; replace HE := hide (Ext.trans HE.out hE); clear hE)
                  | (go_at_call 18; refine (HUnd.out _ _ (by (try simp only [ByteArray.size_extract, ByteArray.size_append', ByteArray.size_mk']); (try simp); (try omega)) (by (try simp only [ByteArray.size_extract, ByteArray.size_append', ByteArray.size_mk']); (try simp); (try omega)) _).mono ?_; rintro e wq ⟨rfl, hE⟩; replace HE := hide (Ext.trans HE.out hE); clear hE)
                  | (go_at_call 10; refine (HLow.out _ (by (try simp only [ByteArray.size_extract, ByteArray.size_append', ByteArray.size_mk']); (try simp); (try omega)) _).mono ?_; rintro e wq ⟨rfl, hE⟩; replace HE := hide (Ext.trans HE.out hE); clear hE))
              go_ret
              exact ⟨ret_bool low_b, HE.out⟩
            · rw [u2] at xy
              go_wp2_with (first
                  | (go_at_call 16; refine (HMat.out _ _ (by (try simp only [ByteArray.size_extract, ByteArray.size_append', ByteArray.size_mk']); (try simp); (try omega)) (by (try simp only [ByteArray.size_extract, ByteArray.size_append', ByteArray.size_mk']); (try simp); (try omega)) _).mono ?_; rintro e wq ⟨rfl, hE⟩; replace HE := hide (Ext.trans HE.out hE); clear hE)
                  | (go_at_call 14; refine (HPat.out _ (by (try simp only [ByteArray.size_extract, ByteArray.size_append', ByteArray.size_mk']); (try simp); (try omega)) _).mono ?_; rintro e wq ⟨rfl, hE⟩; replace HE := hide (Ext.trans HE.out hE); clear hE)
                  | (go_at_call 12; refine (HHos.out _ (by (try simp only [ByteArray.size_extract, ByteArray.size_append', ByteArray.size_mk']); (try simp); (try omega)) _).mono ?_; rintro e wq ⟨rfl, hE⟩; replace HE := hide (Ext.trans HE.out hE); clear hE)
                  | (go_at_call 18; refine (HUnd.out _ _ (by (try simp only [ByteArray.size_extract, ByteArray.size_append', ByteArray.size_mk']); (try simp); (try omega)) (by (try simp only [ByteArray.size_extract, ByteArray.size_append', ByteArray.size_mk']); (try simp); (try omega)) _).mono ?_; rintro e wq ⟨rfl, hE⟩; replace HE := hide (Ext.trans HE.out hE); clear hE)
                  | (go_at_call 10; refine (HLow.out _ (by (try simp only [ByteArray.size_extract, ByteArray.size_append', ByteArray.size_mk']); (try simp); (try omega)) _).mono ?_; rintro e wq ⟨rfl, hE⟩; replace HE := hide (Ext.trans HE.out hE); clear hE))
              go_ret
              exact ⟨ret_bool low_b, HE.out⟩
        · rw [hst] at pq
          have hsb : starB p = true := by rw [← Hst.out, hst]; simp [h2]
          have hbs : base p = p.extract 2 p.size := by unfold base; rw [hsb]; simp
          obtain ⟨m1, m2, m3, m4⟩ := star_match hm hsb
          rw [hbs] at m1 m2 m4
          have m5 : ((p.extract 2 p.size).toList == h.toList) = false := m2
          have g9 : ¬ 9223372036854775807 < 2 + h.size := by omega
          clear hsb hbs m2
          go_wp2_with (first
              | (go_at_call 16; refine (HMat.out _ _ (by (try simp only [ByteArray.size_extract, ByteArray.size_append', ByteArray.size_mk']); (try simp); (try omega)) (by (try simp only [ByteArray.size_extract, ByteArray.size_append', ByteArray.size_mk']); (try simp); (try omega)) _).mono ?_; rintro e wq ⟨rfl, hE⟩; replace HE := hide (Ext.trans HE.out hE); clear hE)
              | (go_at_call 14; refine (HPat.out _ (by (try simp only [ByteArray.size_extract, ByteArray.size_append', ByteArray.size_mk']); (try simp); (try omega)) _).mono ?_; rintro e wq ⟨rfl, hE⟩; replace HE := hide (Ext.trans HE.out hE); clear hE)
              | (go_at_call 12; refine (HHos.out _ (by (try simp only [ByteArray.size_extract, ByteArray.size_append', ByteArray.size_mk']); (try simp); (try omega)) _).mono ?_; rintro e wq ⟨rfl, hE⟩; replace HE := hide (Ext.trans HE.out hE); clear hE)
              | (go_at_call 18; refine (HUnd.out _ _ (by (try simp only [ByteArray.size_extract, ByteArray.size_append', ByteArray.size_mk']); (try simp); (try omega)) (by (try simp only [ByteArray.size_extract, ByteArray.size_append', ByteArray.size_mk']); (try simp); (try omega)) _).mono ?_; rintro e wq ⟨rfl, hE⟩; replace HE := hide (Ext.trans HE.out hE); clear hE)
              | (go_at_call 10; refine (HLow.out _ (by (try simp only [ByteArray.size_extract, ByteArray.size_append', ByteArray.size_mk']); (try simp); (try omega)) _).mono ?_; rintro e wq ⟨rfl, hE⟩; replace HE := hide (Ext.trans HE.out hE); clear hE))
          refine (drawUnder_any a b off n cap f _ (hs.of_all HE.out) hB hn).mono ?_
          rintro e wd ⟨x, y, rfl, hx, hy, hE⟩
          replace HE := hide (Ext.trans HE.out hE)
          clear hE
          have x1 := host_a
          have x2 := host_none
          have HN : Hid (∀ _ : undB x y = true, ∀ _ : eqS x y = false, undB y x = false) := fun h1 h2 => und_not h1 h2
          have xy : (x.toList == y.toList) = eqS x y := rfl
          cases u1 : undB x y
          · skip
            go_wp2_with (first
                | (go_at_call 16; refine (HMat.out _ _ (by (try simp only [ByteArray.size_extract, ByteArray.size_append', ByteArray.size_mk']); (try simp); (try omega)) (by (try simp only [ByteArray.size_extract, ByteArray.size_append', ByteArray.size_mk']); (try simp); (try omega)) _).mono ?_; rintro e wq ⟨rfl, hE⟩; replace HE := hide (Ext.trans HE.out hE); clear hE)
                | (go_at_call 14; refine (HPat.out _ (by (try simp only [ByteArray.size_extract, ByteArray.size_append', ByteArray.size_mk']); (try simp); (try omega)) _).mono ?_; rintro e wq ⟨rfl, hE⟩; replace HE := hide (Ext.trans HE.out hE); clear hE)
                | (go_at_call 12; refine (HHos.out _ (by (try simp only [ByteArray.size_extract, ByteArray.size_append', ByteArray.size_mk']); (try simp); (try omega)) _).mono ?_; rintro e wq ⟨rfl, hE⟩; replace HE := hide (Ext.trans HE.out hE); clear hE)
                | (go_at_call 18; refine (HUnd.out _ _ (by (try simp only [ByteArray.size_extract, ByteArray.size_append', ByteArray.size_mk']); (try simp); (try omega)) (by (try simp only [ByteArray.size_extract, ByteArray.size_append', ByteArray.size_mk']); (try simp); (try omega)) _).mono ?_; rintro e wq ⟨rfl, hE⟩; replace HE := hide (Ext.trans HE.out hE); clear hE)
                | (go_at_call 10; refine (HLow.out _ (by (try simp only [ByteArray.size_extract, ByteArray.size_append', ByteArray.size_mk']); (try simp); (try omega)) _).mono ?_; rintro e wq ⟨rfl, hE⟩; replace HE := hide (Ext.trans HE.out hE); clear hE))
            go_ret
            exact ⟨ret_bool low_b, HE.out⟩
          · cases u2 : eqS x y
            · have u3 := HN.out u1 u2
              rw [u2] at xy
              go_wp2_with (first
                  | (go_at_call 16; refine (HMat.out _ _ (by (try simp only [ByteArray.size_extract, ByteArray.size_append', ByteArray.size_mk']); (try simp); (try omega)) (by (try simp only [ByteArray.size_extract, ByteArray.size_append', ByteArray.size_mk']); (try simp); (try omega)) _).mono ?_; rintro e wq ⟨rfl, hE⟩; replace HE := hide (Ext.trans HE.out hE); clear hE)
                  | (go_at_call 14; refine (HPat.out _ (by (try simp only [ByteArray.size_extract, ByteArray.size_append', ByteArray.size_mk']); (try simp); (try omega)) _).mono ?_; rintro e wq ⟨rfl, hE⟩; replace HE := hide (Ext.trans HE.out hE); clear hE)
                  | (go_at_call 12; refine (HHos.out _ (by (try simp only [ByteArray.size_extract, ByteArray.size_append', ByteArray.size_mk']); (try simp); (try omega)) _).mono ?_; rintro e wq ⟨rfl, hE⟩; replace HE := hide (Ext.trans HE.out hE); clear hE)
                  | (go_at_call 18; refine (HUnd.out _ _ (by (try simp only [ByteArray.size_extract, ByteArray.size_append', ByteArray.size_mk']); (try simp); (try omega)) (by (try simp only [ByteArray.size_extract, ByteArray.size_append', ByteArray.size_mk']); (try simp); (try omega)) _).mono ?_; rintro e wq ⟨rfl, hE⟩; replace HE := hide (Ext.trans HE.out hE); clear hE)
                  | (go_at_call 10; refine (HLow.out _ (by (try simp only [ByteArray.size_extract, ByteArray.size_append', ByteArray.size_mk']); (try simp); (try omega)) _).mono ?_; rintro e wq ⟨rfl, hE⟩; replace HE := hide (Ext.trans HE.out hE); clear hE))
              go_ret
              exact ⟨ret_bool low_b, HE.out⟩
            · rw [u2] at xy
              go_wp2_with (first
                  | (go_at_call 16; refine (HMat.out _ _ (by (try simp only [ByteArray.size_extract, ByteArray.size_append', ByteArray.size_mk']); (try simp); (try omega)) (by (try simp only [ByteArray.size_extract, ByteArray.size_append', ByteArray.size_mk']); (try simp); (try omega)) _).mono ?_; rintro e wq ⟨rfl, hE⟩; replace HE := hide (Ext.trans HE.out hE); clear hE)
                  | (go_at_call 14; refine (HPat.out _ (by (try simp only [ByteArray.size_extract, ByteArray.size_append', ByteArray.size_mk']); (try simp); (try omega)) _).mono ?_; rintro e wq ⟨rfl, hE⟩; replace HE := hide (Ext.trans HE.out hE); clear hE)
                  | (go_at_call 12; refine (HHos.out _ (by (try simp only [ByteArray.size_extract, ByteArray.size_append', ByteArray.size_mk']); (try simp); (try omega)) _).mono ?_; rintro e wq ⟨rfl, hE⟩; replace HE := hide (Ext.trans HE.out hE); clear hE)
                  | (go_at_call 18; refine (HUnd.out _ _ (by (try simp only [ByteArray.size_extract, ByteArray.size_append', ByteArray.size_mk']); (try simp); (try omega)) (by (try simp only [ByteArray.size_extract, ByteArray.size_append', ByteArray.size_mk']); (try simp); (try omega)) _).mono ?_; rintro e wq ⟨rfl, hE⟩; replace HE := hide (Ext.trans HE.out hE); clear hE)
                  | (go_at_call 10; refine (HLow.out _ (by (try simp only [ByteArray.size_extract, ByteArray.size_append', ByteArray.size_mk']); (try simp); (try omega)) _).mono ?_; rintro e wq ⟨rfl, hE⟩; replace HE := hide (Ext.trans HE.out hE); clear hE))
              go_ret
              exact ⟨ret_bool low_b, HE.out⟩
      · have g2 : ¬ (2 : Int) < (p.size : Int) := by omega
        go_wp2_with (first
            | (go_at_call 16; refine (HMat.out _ _ (by (try simp only [ByteArray.size_extract, ByteArray.size_append', ByteArray.size_mk']); (try simp); (try omega)) (by (try simp only [ByteArray.size_extract, ByteArray.size_append', ByteArray.size_mk']); (try simp); (try omega)) _).mono ?_; rintro e wq ⟨rfl, hE⟩; replace HE := hide (Ext.trans HE.out hE); clear hE)
            | (go_at_call 14; refine (HPat.out _ (by (try simp only [ByteArray.size_extract, ByteArray.size_append', ByteArray.size_mk']); (try simp); (try omega)) _).mono ?_; rintro e wq ⟨rfl, hE⟩; replace HE := hide (Ext.trans HE.out hE); clear hE)
            | (go_at_call 12; refine (HHos.out _ (by (try simp only [ByteArray.size_extract, ByteArray.size_append', ByteArray.size_mk']); (try simp); (try omega)) _).mono ?_; rintro e wq ⟨rfl, hE⟩; replace HE := hide (Ext.trans HE.out hE); clear hE)
            | (go_at_call 18; refine (HUnd.out _ _ (by (try simp only [ByteArray.size_extract, ByteArray.size_append', ByteArray.size_mk']); (try simp); (try omega)) (by (try simp only [ByteArray.size_extract, ByteArray.size_append', ByteArray.size_mk']); (try simp); (try omega)) _).mono ?_; rintro e wq ⟨rfl, hE⟩; replace HE := hide (Ext.trans HE.out hE); clear hE)
            | (go_at_call 10; refine (HLow.out _ (by (try simp only [ByteArray.size_extract, ByteArray.size_append', ByteArray.size_mk']); (try simp); (try omega)) _).mono ?_; rintro e wq ⟨rfl, hE⟩; replace HE := hide (Ext.trans HE.out hE); clear hE))
        refine (drawUnder_any a b off n cap f _ (hs.of_all HE.out) hB hn).mono ?_
        rintro e wd ⟨x, y, rfl, hx, hy, hE⟩
        replace HE := hide (Ext.trans HE.out hE)
        clear hE
        have x1 := host_a
        have x2 := host_none
        have HN : Hid (∀ _ : undB x y = true, ∀ _ : eqS x y = false, undB y x = false) := fun h1 h2 => und_not h1 h2
        have xy : (x.toList == y.toList) = eqS x y := rfl
        cases u1 : undB x y
        · skip
          go_wp2_with (first
              | (go_at_call 16; refine (HMat.out _ _ (by (try simp only [ByteArray.size_extract, ByteArray.size_append', ByteArray.size_mk']); (try simp); (try omega)) (by (try simp only [ByteArray.size_extract, ByteArray.size_append', ByteArray.size_mk']); (try simp); (try omega)) _).mono ?_; rintro e wq ⟨rfl, hE⟩; replace HE := hide (Ext.trans HE.out hE); clear hE)
              | (go_at_call 14; refine (HPat.out _ (by (try simp only [ByteArray.size_extract, ByteArray.size_append', ByteArray.size_mk']); (try simp); (try omega)) _).mono ?_; rintro e wq ⟨rfl, hE⟩; replace HE := hide (Ext.trans HE.out hE); clear hE)
              | (go_at_call 12; refine (HHos.out _ (by (try simp only [ByteArray.size_extract, ByteArray.size_append', ByteArray.size_mk']); (try simp); (try omega)) _).mono ?_; rintro e wq ⟨rfl, hE⟩; replace HE := hide (Ext.trans HE.out hE); clear hE)
              | (go_at_call 18; refine (HUnd.out _ _ (by (try simp only [ByteArray.size_extract, ByteArray.size_append', ByteArray.size_mk']); (try simp); (try omega)) (by (try simp only [ByteArray.size_extract, ByteArray.size_append', ByteArray.size_mk']); (try simp); (try omega)) _).mono ?_; rintro e wq ⟨rfl, hE⟩; replace HE := hide (Ext.trans HE.out hE); clear hE)
              | (go_at_call 10; refine (HLow.out _ (by (try simp only [ByteArray.size_extract, ByteArray.size_append', ByteArray.size_mk']); (try simp); (try omega)) _).mono ?_; rintro e wq ⟨rfl, hE⟩; replace HE := hide (Ext.trans HE.out hE); clear hE))
          go_ret
          exact ⟨ret_bool low_b, HE.out⟩
        · cases u2 : eqS x y
          · have u3 := HN.out u1 u2
            rw [u2] at xy
            go_wp2_with (first
                | (go_at_call 16; refine (HMat.out _ _ (by (try simp only [ByteArray.size_extract, ByteArray.size_append', ByteArray.size_mk']); (try simp); (try omega)) (by (try simp only [ByteArray.size_extract, ByteArray.size_append', ByteArray.size_mk']); (try simp); (try omega)) _).mono ?_; rintro e wq ⟨rfl, hE⟩; replace HE := hide (Ext.trans HE.out hE); clear hE)
                | (go_at_call 14; refine (HPat.out _ (by (try simp only [ByteArray.size_extract, ByteArray.size_append', ByteArray.size_mk']); (try simp); (try omega)) _).mono ?_; rintro e wq ⟨rfl, hE⟩; replace HE := hide (Ext.trans HE.out hE); clear hE)
                | (go_at_call 12; refine (HHos.out _ (by (try simp only [ByteArray.size_extract, ByteArray.size_append', ByteArray.size_mk']); (try simp); (try omega)) _).mono ?_; rintro e wq ⟨rfl, hE⟩; replace HE := hide (Ext.trans HE.out hE); clear hE)
                | (go_at_call 18; refine (HUnd.out _ _ (by (try simp only [ByteArray.size_extract, ByteArray.size_append', ByteArray.size_mk']); (try simp); (try omega)) (by (try simp only [ByteArray.size_extract, ByteArray.size_append', ByteArray.size_mk']); (try simp); (try omega)) _).mono ?_; rintro e wq ⟨rfl, hE⟩; replace HE := hide (Ext.trans HE.out hE); clear hE)
                | (go_at_call 10; refine (HLow.out _ (by (try simp only [ByteArray.size_extract, ByteArray.size_append', ByteArray.size_mk']); (try simp); (try omega)) _).mono ?_; rintro e wq ⟨rfl, hE⟩; replace HE := hide (Ext.trans HE.out hE); clear hE))
            go_ret
            exact ⟨ret_bool low_b, HE.out⟩
          · rw [u2] at xy
            go_wp2_with (first
                | (go_at_call 16; refine (HMat.out _ _ (by (try simp only [ByteArray.size_extract, ByteArray.size_append', ByteArray.size_mk']); (try simp); (try omega)) (by (try simp only [ByteArray.size_extract, ByteArray.size_append', ByteArray.size_mk']); (try simp); (try omega)) _).mono ?_; rintro e wq ⟨rfl, hE⟩; replace HE := hide (Ext.trans HE.out hE); clear hE)
                | (go_at_call 14; refine (HPat.out _ (by (try simp only [ByteArray.size_extract, ByteArray.size_append', ByteArray.size_mk']); (try simp); (try omega)) _).mono ?_; rintro e wq ⟨rfl, hE⟩; replace HE := hide (Ext.trans HE.out hE); clear hE)
                | (go_at_call 12; refine (HHos.out _ (by (try simp only [ByteArray.size_extract, ByteArray.size_append', ByteArray.size_mk']); (try simp); (try omega)) _).mono ?_; rintro e wq ⟨rfl, hE⟩; replace HE := hide (Ext.trans HE.out hE); clear hE)
                | (go_at_call 18; refine (HUnd.out _ _ (by (try simp only [ByteArray.size_extract, ByteArray.size_append', ByteArray.size_mk']); (try simp); (try omega)) (by (try simp only [ByteArray.size_extract, ByteArray.size_append', ByteArray.size_mk']); (try simp); (try omega)) _).mono ?_; rintro e wq ⟨rfl, hE⟩; replace HE := hide (Ext.trans HE.out hE); clear hE)
                | (go_at_call 10; refine (HLow.out _ (by (try simp only [ByteArray.size_extract, ByteArray.size_append', ByteArray.size_mk']); (try simp); (try omega)) _).mono ?_; rintro e wq ⟨rfl, hE⟩; replace HE := hide (Ext.trans HE.out hE); clear hE))
            go_ret
            exact ⟨ret_bool low_b, HE.out⟩
  · go_enter Try.func8, Try.ntmps8
    go_wp2_with fail
    refine (big_long a n cap w hn).mono ?_
    rintro e w0 ⟨rfl, rfl⟩
    go_wp2
    go_ret
    exact ⟨rfl, Below.refl _ _⟩

end Go.Proofs.Ytifokecmmnineaa
