/- Walks: the model's TreeOk: l7End. -/
import Derived.Test.YtboaiojapgiedaaItk
namespace Go.Proofs.Ytboaiojapgiedaa
set_option linter.unusedVariables false
set_option linter.unusedSimpArgs false
open Go.RowKit

/-- k trees, one behind the other; f tells the place behind one, or -1. -/
def kidsF (f : Nat → Int) : Nat → Int → Int
  | 0, s => s
  | k + 1, s => if kidsF f k s < 0 then -1 else f (kidsF f k s).toNat

/-- The place behind the tree at i, where m more may be around; -1 where it is none. -/
def endF (kid : Nat → Int) (n : Nat) : Nat → Nat → Int
  | 0, _ => -1
  | m + 1, i => if n ≤ i then -1 else kidsF (endF kid n m) (kid i).toNat (i + 1)

theorem kidsF_range {f : Nat → Int} {n : Nat} (hf : ∀ i, -1 ≤ f i ∧ f i ≤ n) {s : Int} (s0 : -1 ≤ s) (s1 : s ≤ n) (k : Nat) : -1 ≤ kidsF f k s ∧ kidsF f k s ≤ n := by
  induction k with
  | zero => exact ⟨s0, s1⟩
  | succ k ih => unfold kidsF; split
                 · omega
                 · exact hf _
theorem kidsF_neg {f : Nat → Int} {s : Int} {k : Nat} (h : kidsF f k s < 0) (n : Nat) (hk : k < n) : kidsF f n s = -1 := by
  induction n with
  | zero => omega
  | succ n ih => by_cases e : k = n
                 · subst e; unfold kidsF; rw [if_pos h]
                 · unfold kidsF; rw [if_pos (by rw [ih (by omega)]; omega)]

theorem endF_range (kid : Nat → Int) (n : Nat) : ∀ (m i : Nat), -1 ≤ endF kid n m i ∧ endF kid n m i ≤ n
  | 0, i => by unfold endF; omega
  | m + 1, i => by
    unfold endF
    split
    · omega
    · exact kidsF_range (endF_range kid n m) (by omega) (by omega) _

set_option maxHeartbeats 1600000 in
theorem l7End_any (a : Option Addr) (b off n cap : Nat) (x : Nat → It) (w : World) (hs : ISeg w a b off n x) (hn : n ≤ 1048576) (hkid : ∀ i, i < n → 0 ≤ (x i).kid ∧ (x i).kid ≤ 1048576) :
    ∀ (m i d : Nat) (W : World), d + m = 12 + 1 → i ≤ n → Ext w W →
    Calls Try.prog 57 #[.slice a n cap, .int .i64 i, .int .i64 d] W fun e w' => e = .returned (.int .i64 (endF (fun j => (x j).kid) n m i)) ∧ Ext W w'
  | 0, i, d, W, hd, hi, hE => by
    have hd' : (d : Int) = 12 + 1 := by omega
    show Calls Try.prog 57 #[.slice a n cap, .int .i64 i, .int .i64 d] W fun e w' => e = .returned (.int .i64 (-1)) ∧ Ext W w'
    rw [hd']
    by_cases h : (n : Int) ≤ i
    · go_enter Try.func57, Try.ntmps57
      go_wp2
      go_ret
      exact ⟨rfl, Ext.refl _⟩
    · go_enter Try.func57, Try.ntmps57
      go_wp2
      go_ret
      exact ⟨rfl, Ext.refl _⟩
  | m + 1, i, d, W, hd, hi, hE => by
    by_cases h : n ≤ i
    · have h' : (n : Int) ≤ i := by omega
      have e1 : endF (fun j => (x j).kid) n (m + 1) i = -1 := by unfold endF; rw [if_pos h]
      rw [e1]
      go_enter Try.func57, Try.ntmps57
      go_wp2
      go_ret
      exact ⟨rfl, Ext.refl _⟩
    · have h' : ¬ (n : Int) ≤ i := by omega
      have hd' : ¬ (12 : Int) < d := by omega
      have e1 : endF (fun j => (x j).kid) n (m + 1) i = kidsF (endF (fun j => (x j).kid) n m) (x i).kid.toNat (i + 1) := by rw [endF]; rw [if_neg h]
      rw [e1]
      have IH := hide (fun (i : Nat) (W : World) (hi : i ≤ n) (hE : Ext w W) => l7End_any a b off n cap x w hs hn hkid m i (d + 1) W (by omega) hi hE)
      have hr := endF_range (fun j => (x j).kid) n m
      obtain ⟨f, hf⟩ : ∃ f, endF (fun j => (x j).kid) n m = f := ⟨_, rfl⟩
      rw [hf] at IH hr ⊢
      clear hf e1
      have hr2 := hide (fun k => kidsF_range (n := n) hr (s := (i : Int) + 1) (by omega) (by omega) k)
      have HR := hide hr
      obtain rfl := hs.at' (by omega)
      obtain ⟨hk0, hk1⟩ := hkid i (by omega)
      have HS := hide hs
      have HE := hide hE
      have HK := hide hkid
      obtain ⟨K, hK⟩ : ∃ K : Nat, (x i).kid = K := ⟨(x i).kid.toNat, by omega⟩
      have c2 := (hs.of_all hE).c2 i (by omega)
      rw [hK] at hk0 hk1 c2 ⊢
      rw [Int.toNat_natCast]
      clear hs hE hkid hr
      go_enter Try.func57, Try.ntmps57
      go_wp2
      clear c2
      go_loopw [7, 8] (fun c j wr => ∃ k : Nat, k ≤ K ∧ j = .int .i64 k ∧ 0 ≤ kidsF f k (i + 1) ∧ c = .int .i64 (kidsF f k (i + 1)) ∧ Ext W wr) (fun _ j _ => K - (intOf j).toNat)
      case atStart => exact ⟨0, Nat.zero_le _, rfl, by show (0 : Int) ≤ i + 1; omega, rfl, Ext.refl _⟩
      case round =>
        obtain ⟨k, hk, rfl, hz0, rfl, hE1⟩ := hrel
        have hz1 := (hr2.out k).2
        obtain ⟨z, hz⟩ : ∃ z : Nat, kidsF f k (i + 1) = z := ⟨(kidsF f k (i + 1)).toNat, by omega⟩
        rw [hz] at hz0 hz1 ⊢
        have c2 := (HS.out.of_all (HE.out.trans hE1)).c2 i (by omega)
        rw [hK] at c2
        have HE1 := hide hE1
        clear hE1
        by_cases hlt : k < K
        · have hlt' : (k : Int) < (K : Int) := by omega
          have hfz := HR.out z
          have hnx : kidsF f (k + 1) (i + 1) = f z := by
            show (if kidsF f k (i + 1) < 0 then -1 else f (kidsF f k (i + 1)).toNat) = f z
            rw [hz, if_neg (by omega), Int.toNat_natCast]
          have HC := hide (IH.out z wr (by omega) (HE.out.trans HE1.out))
          rw [show (((d + 1 : Nat)) : Int) = (d : Int) + 1 by omega] at HC
          obtain ⟨y, hy⟩ : ∃ y, f z = y := ⟨_, rfl⟩
          rw [hy] at HC hfz hnx
          have Hz := hide hz
          have Hy := hide hnx
          clear hy hz hnx
          go_wp2_with fail
          refine HC.out.mono ?_
          rintro e W2 ⟨rfl, hE2⟩
          have HE2 := hide hE2
          clear hE2
          by_cases hneg : y < 0
          · go_wp2
            go_ret
            have e1 : kidsF f K (i + 1) = -1 := by
              by_cases hkn1 : k + 1 = K
              · have := Hy.out; rw [hkn1] at this; rw [this]; omega
              · exact kidsF_neg (k := k + 1) (by rw [Hy.out]; exact hneg) K (by omega)
            exact ⟨by rw [e1]; rfl, HE1.out.trans HE2.out⟩
          · go_wp2
            go_roundw
            case rel => exact ⟨k + 1, by omega, by go_num, by rw [Hy.out]; omega, by rw [Hy.out], HE1.out.trans HE2.out⟩
            case measure => simp [intOf]; omega
        · obtain rfl : k = K := by omega
          go_wp2
          go_ret
          exact ⟨by rw [hz]; rfl, HE1.out⟩

end Go.Proofs.Ytboaiojapgiedaa
