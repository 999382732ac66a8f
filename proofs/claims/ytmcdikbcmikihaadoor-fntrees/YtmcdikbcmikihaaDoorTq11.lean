/- Walks: two lists of like items are the same tree (laws.sameTree); the model draws a tree. -/
import Derived.Deep.QuietTactic
import Derived.BigQuiet
import Derived.Test.YtmcdikbcmikihaaDoorTq02
import Derived.Test.YtmcdikbcmikihaaDoorTq09
import Derived.Test.YtmcdikbcmikihaaDoorTq10
namespace Go.Proofs.YtmcdikbcmikihaaDoor

section
set_option linter.unusedVariables false
set_option linter.unusedSimpArgs false

open Go.RowKit

theorem bseg_drewN {w : World} {a : Option Addr} {b off n : Nat} {f : Nat → Int} (h : BSeg w a b off n f) (k : Nat) : BSeg (w.drewN k) a b off n f := ⟨h.at', fun i hi => h.cell i hi⟩

set_option maxHeartbeats 1600000 in
set_option maxRecDepth 100000 in
theorem sameTree_same (a : Option Addr) (b off n cap : Nat) (x : Nat → It) (a2 : Option Addr) (b2 off2 cap2 : Nat) (y : Nat → It) (w : World) (hs : ISeg w a b off n x) (hs2 : ISeg w a2 b2 off2 n y) (hn : n ≤ 1048576) (hxy : SameI y x 0 n) :
    Calls Tryd.prog 18 #[.slice a n cap, .slice a2 n cap2] w fun e w' => e = .returned (.bool true) ∧ Ext w w' := by
  have Hs := hide hs
  have Hs2 := hide hs2
  have Hxy := hide hxy
  clear hs hs2 hxy
  go_enter Tryd.func18, Tryd.ntmps18
  go_wp2
  go_loopw [5] (fun i wr => ∃ k : Nat, i = .int .i64 (k : Int) ∧ k ≤ n ∧ Ext w wr) (fun i _ => n - (intOf i).toNat)
  case atStart => exact ⟨0, rfl, Nat.zero_le _, Ext.refl _⟩
  case round =>
    obtain ⟨k, rfl, hk, hE⟩ := hrel
    have HE := hide hE
    by_cases hkn : k < n
    · have i0 : (k : Int) < (n : Int) := by omega
      have A := Hs.out.of_all hE
      have B := Hs2.out.of_all hE
      have c0 := A.c0 k hkn
      have c1 := A.c1 k hkn
      have c2 := A.c2 k hkn
      have d0 := B.c0 k hkn
      have d1 := B.c1 k hkn
      have d2 := B.c2 k hkn
      have e1 := A.body k hkn
      have e2 := B.body k hkn
      obtain rfl := A.at' (by omega)
      obtain rfl := B.at' (by omega)
      obtain ⟨s0, s1, s2, s3⟩ := Hxy.out k hkn
      rw [Nat.zero_add] at s0 s1 s2 s3
      rw [s0] at d0
      rw [s1] at d2
      rw [s2] at d1 e2
      rw [s3] at e2
      generalize (x k).tag = t0 at *
      generalize (x k).kid = t2 at *
      generalize (x k).ad = p1 at *
      generalize (y k).ad = p2 at *
      generalize (x k).cap = q1 at *
      generalize (y k).cap = q2 at *
      have k1 := fun m => conv_seg (cap := q1) (bseg_drewN e1 m)
      have k2 := fun m => conv_seg (cap := q2) (bseg_drewN e2 m)
      generalize strOfNums (nums (x k).f (x k).len) = R at *
      generalize (x k).len = l1 at *
      clear s0 s1 s2 s3 e1 e2 A B hE
      go_wp2
      go_quiet (fail)
      go_wp2
      go_roundw
      case rel => exact ⟨k + 1, by simp, by omega, HE.out.trans ⟨rfl, rfl, rfl, Nat.le_refl _, fun _ _ => rfl⟩⟩
      case measure => simp [intOf]; omega
    · obtain rfl : k = n := by omega
      go_wp2
      go_ret
      exact ⟨rfl, HE.out⟩

/-- A drawn tree. -/
def GivesDt (w : World) (e : Ending) (w' : World) : Prop := ∃ v L, e = .returned v ∧ LAcc w.heap.size w' v L ∧ 0 < L.length ∧ L.length ≤ 40 ∧ (∀ t ∈ L, Dri t) ∧ IsT 3 L ∧ Ext w w'

set_option maxHeartbeats 1600000 in
set_option maxRecDepth 100000 in
theorem drawTree_any (a : Option Addr) (b off n cap : Nat) (f : Nat → Int) (w : World) (hs : BSeg w a b off n f) (hB : ∀ i, i < n → 0 ≤ f i ∧ f i ≤ 255) (hn : n ≤ 1048576) :
    Calls Tryd.prog 15 #[.slice a n cap] w (GivesDt w) := by
  have Hs := hide hs
  have HB := hide hB
  clear hs hB
  go_enter Tryd.func15, Tryd.ntmps15
  go_wp2_with fail
  refine (l1New_any a b off n cap f w Hs.out HB.out hn).mono ?_
  rintro e w1 ⟨rfl, hC1, hlt1, B1⟩
  have K1 : Code w1 w.heap.size a b off n f := ⟨Hs.out.of_all B1, HB.out, fun h => by have := Hs.out.lt h; omega⟩
  have HK := hide K1
  have HC := hide hC1
  have HE := hide B1
  have Hb : Hid (0 < n → b < w.heap.size) := hide Hs.out.lt
  clear hC1 hlt1 B1 K1 Hs HB
  go_wp2_with fail
  refine (l7DrawTree_any w.heap.size a b off n cap f hn 3 3 (.slice none 0 0) [] _ rfl (by decide) ⟨⟨⟨rfl, .inl ⟨rfl, rfl⟩⟩, Bods.nil _ _, fun t h => absurd h List.not_mem_nil⟩, fun t h => absurd h List.not_mem_nil⟩ (by decide) HC.out HK.out Hb.out).mono ?_
  rintro e w2 ⟨v, M, rfl, hA, h0, h1, hD, hT, -, hB2⟩
  have HR : Hid (GivesDt w (.returned v) w2) := hide ⟨v, M, rfl, by rw [List.nil_append] at hA; exact hA.toLAcc.low (Nat.le_succ _), h0, Nat.le_trans h1 (by decide), hD, hT, Below.trans HE.out hB2⟩
  clear hA h0 h1 hD hT hB2 HC HK Hb HE
  go_wp2
  go_ret
  exact HR.out
end

end Go.Proofs.YtmcdikbcmikihaaDoor
