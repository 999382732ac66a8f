/- Walks: WriteDer of the model. -/
import Derived.Test.YtgdjaapjdmancaaGreatDoorCy03
import Derived.Test.YtgdjaapjdmancaaGreatDoorCy24
import Derived.Test.YtgdjaapjdmancaaGreatDoorCy25
namespace Go.Proofs.YtgdjaapjdmancaaGreatDoor

section
set_option linter.unusedVariables false
set_option linter.unusedSimpArgs false

open Go.RowKit

/-- What WriteDer answers. -/
def wdB (x : Nat → It) (n : Nat) : Bool := treeV x n && decide ((wrF x n 13 0).length ≤ 4000)

def wdL (x : Nat → It) (n : Nat) : List Int := if wdB x n then wrF x n 13 0 else []

def GivesWd (w : World) (L : List Int) (ok : Bool) (e : Ending) (w' : World) : Prop := ∃ v, e = .returned (.tuple #[v, .bool ok]) ∧ w'.ownsRow w.heap.size 5 1 v L.length (bl L) ∧ Ext w w'

theorem smL_part (x : Nat → It) {k n : Nat} (h : k < n) : smL x 0 k + (x k).len ≤ smL x 0 n := by
  obtain ⟨d, rfl⟩ : ∃ d, n = k + 1 + d := ⟨n - (k + 1), by omega⟩
  rw [smL_add, smL, Nat.zero_add]
  omega

set_option maxHeartbeats 3200000 in
set_option maxRecDepth 100000 in
theorem specWriteDer_any (a : Option Addr) (b off n cap : Nat) (x : Nat → It) (w : World) (hs : ISeg w a b off n x) (hn : n ≤ 1048576) (hl : ∀ i, i < n → (x i).len ≤ 1048576) :
    Calls Tryz.prog 20 #[.slice a n cap] w fun e w' => GivesWd w (wdL x n) (wdB x n) e w' := by
  have HT := hide (specTree_any a b off n cap x w hs hn)
  have HN : Hid (∀ W, Ext w W → GivesWd w [] false (.returned (.tuple #[.slice (some ⟨W.heap.size, 0, none⟩) 0 0, .bool false])) (W.alloc (.cells #[] 5))) := fun W h => ⟨_, rfl, World.ownsRow_made (base := w.heap.size) (e := 5) (size := 1) W #[] 0 (Below.size h) (by simp) rfl, h.trans (Ext.alloc _ _)⟩
  cases ht : treeV x n
  · have h1 : wdB x n = false := by unfold wdB; rw [ht]; rfl
    have h2 : wdL x n = [] := by unfold wdL; rw [h1]; rfl
    rw [h1, h2]
    rw [ht] at HT
    clear hs hl ht h1 h2
    go_enter Tryz.func20, Tryz.ntmps20
    go_wp2_with (go_at_call 38; refine HT.out.mono ?_; rintro e w1 ⟨rfl, hE⟩; have HE := hide hE; clear hE)
    go_ret2
    exact HN.out _ HE.out
  · rw [ht] at HT
    obtain ⟨h1, h300, hg⟩ := tree_good ht
    have hend : endF (fun j => (x j).kid) n 13 0 = n := by
      unfold treeV at ht
      simp only [decide_eq_true_eq] at ht
      exact ht.2.2.2
    obtain ⟨-, wl, wu⟩ := wrF_bounds x n hl hn 13 0 n hend
    rw [Nat.sub_zero] at wl wu
    have hd : wdB x n = decide ((wrF x n 13 0).length ≤ 4000) := by unfold wdB; rw [ht]; rfl
    have Hno : Hid (4000 < (wrF x n 13 0).length → wdB x n = false ∧ wdL x n = []) := fun h => by
      have e : wdB x n = false := by rw [hd]; exact decide_eq_false (by omega)
      exact ⟨e, by unfold wdL; rw [e]; rfl⟩
    have Hyes : Hid ((wrF x n 13 0).length ≤ 4000 → wdB x n = true ∧ wdL x n = wrF x n 13 0) := fun h => by
      have e : wdB x n = true := by rw [hd]; exact decide_eq_true h
      exact ⟨e, by unfold wdL; rw [e]; rfl⟩
    have HWr : Hid (∀ W, (wrF x n 13 0).length ≤ 60000 → Ext w W → Calls Tryz.prog 39 #[.slice a n cap, .int .i64 0] W fun e w' => GivesWr W (wrF x n 13 0) (n : Int) e w') := fun W h hE => by
      have := l7Write_any a b off n cap x w hs hn (fun i hi => by have := hg i hi; unfold itGood at this; omega) (fun i hi => by have := hg i hi; unfold itGood at this; omega) 13 0 W (by omega) (by rw [hend]; omega) h hE
      rw [hend] at this
      exact this
    have Hwl := hide wl
    have Hwu := hide wu
    have HS := hide hs
    have Hl := hide hl
    obtain rfl := hs.at' (by omega)
    generalize wrF x n 13 0 = Lw at *
    generalize wdB x n = ok at *
    generalize wdL x n = Ld at *
    clear hs hl ht hd hend hg wl wu
    go_enter Tryz.func20, Tryz.ntmps20
    go_wp2_with (go_at_call 38; refine HT.out.mono ?_; rintro e w1 ⟨rfl, hE⟩; have HE := hide hE; clear hE)
    clear HT
    go_loop [4, 5] (fun sv iv => ∃ k : Nat, k ≤ n ∧ iv = .int .i64 (k : Int) ∧ sv = .int .i64 (smL x 0 k : Int) ∧ smL x 0 k ≤ 4000 * k) (fun _ iv => n - (intOf iv).toNat)
    case atStart => exact ⟨0, Nat.zero_le _, rfl, rfl, Nat.le_refl _⟩
    case round =>
      obtain ⟨k, hk, rfl, rfl, hsm⟩ := hrel
      by_cases hlt : k < n
      · have hlt' : (k : Int) < (n : Int) := by omega
        have c1 := (HS.out.of_all HE.out).c1 k hlt
        have hpart := smL_part x hlt
        by_cases hbig : 4000 < (x k).len
        · have hbig' : (4000 : Int) < ((x k).len : Int) := by omega
          obtain ⟨e1, e2⟩ := Hno.out (by have := Hwl.out; omega)
          subst e1 e2
          clear hpart hsm
          go_wp2
          go_ret2
          exact HN.out _ HE.out
        · have hbig' : ¬ (4000 : Int) < ((x k).len : Int) := by omega
          have hst : smL x 0 (k + 1) = smL x 0 k + (x k).len := by rw [smL, Nat.zero_add]
          have Hst := hide hst
          have hw1 : wrap64 ((smL x 0 k : Int) + ((x k).len : Int)) = ((smL x 0 k + (x k).len : Nat) : Int) := by unfold wrap64; omega
          have hb2 : smL x 0 k + (x k).len ≤ 4000 * (k + 1) := by omega
          rw [← hst] at hw1 hb2
          generalize hS1 : smL x 0 (k + 1) = S1 at *
          have HS1 := hide hS1
          clear hpart hsm hst hbig hS1
          go_wp2
          go_round
          case rel => exact ⟨k + 1, hlt, by clear hw1; go_num, (by rw [HS1.out, ← hw1]), by rw [HS1.out]; exact hb2⟩
          case measure => clear hw1; simp [intOf]; omega
      · obtain rfl : k = n := by omega
        have hlt' : ¬ (k : Int) < (k : Int) := by omega
        have hwl := Hwl.out
        have hwu := Hwu.out
        by_cases hbig : 4000 < smL x 0 k
        · have hbig' : (4000 : Int) < (smL x 0 k : Int) := by omega
          obtain ⟨e1, e2⟩ := Hno.out (by omega)
          subst e1 e2
          generalize smL x 0 k = S0 at *
          clear hbig hwl hwu hsm
          go_wp2
          go_ret2
          exact HN.out _ HE.out
        · have hbig' : ¬ (4000 : Int) < (smL x 0 k : Int) := by omega
          have HC := hide (HWr.out w1 (by omega) HE.out)
          have hl2 : Lw.length ≤ 60000 := by omega
          generalize smL x 0 k = S0 at *
          clear hbig hwl hwu hsm HWr
          go_wp2_with fail
          refine HC.out.mono ?_
          rintro e w3 ⟨v, rfl, hO, hE3⟩
          have HE3 := hide (HE.out.trans hE3)
          have HO := hide (owns_mono hO (Below.size HE.out))
          obtain ⟨va, vg, vc, rfl⟩ : ∃ va vg vc, v = .slice va Lw.length vc := by
            rw [bl_byts] at hO
            obtain ⟨a1, g1, c1, rfl, -⟩ := owns_seg hO
            exact ⟨a1, g1, c1, rfl⟩
          clear hO hE3 HC
          by_cases h4 : Lw.length ≤ 4000
          · have h4' : ¬ (4000 : Int) < (Lw.length : Int) := by omega
            obtain ⟨e1, e2⟩ := Hyes.out h4
            subst e1 e2
            clear h4
            go_wp2
            go_ret2
            exact ⟨_, rfl, HO.out, HE3.out⟩
          · have h4' : (4000 : Int) < (Lw.length : Int) := by omega
            obtain ⟨e1, e2⟩ := Hno.out (by omega)
            subst e1 e2
            clear h4
            go_wp2
            go_ret2
            exact HN.out _ HE3.out
end

end Go.Proofs.YtgdjaapjdmancaaGreatDoor
