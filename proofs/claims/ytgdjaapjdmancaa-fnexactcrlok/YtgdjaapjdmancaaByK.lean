/- Lists of bytes as a field: measured, copied, compared. -/
import Derived.Test.YtgdjaapjdmancaaExs
import Derived.Test.YtgdjaapjdmancaaBLists
namespace Go.Proofs.Ytgdjaapjdmancaa
set_option linter.unusedVariables false
set_option linter.unusedSimpArgs false
set_option maxRecDepth 100000
open Go.RowKit

theorem szBytes_any (a : Option Addr) (n cap : Nat) (l : Int) (w : World) (l0 : 0 ≤ l) (l1 : l ≤ 1048576) (hn : n ≤ 9223372036854775807) :
    Calls Try.prog 11 #[.slice a n cap, .int .i64 l] w fun e w' => (∃ z : Int, e = .returned (.int .i64 z) ∧ -1 ≤ z ∧ z ≤ l ∧ (0 ≤ z → (n : Int) ≤ l)) ∧ w' = w := by
  by_cases h : l < n
  · have h1 : l - (n : Int) < 0 := by omega
    have h2 : -9223372036854775808 ≤ l - (n : Int) := by omega
    go_enter Try.func11, Try.ntmps11
    go_wp2
    go_ret
    exact ⟨⟨-1, rfl, by omega, by omega, fun h => by omega⟩, rfl⟩
  · obtain ⟨D, hD⟩ : ∃ D, l - (n : Int) = D := ⟨_, rfl⟩
    have d0 : -1 ≤ D := by omega
    have d1 : D ≤ l := by omega
    have d2 : (n : Int) ≤ l := by omega
    have h1 : ¬ D < 0 := by omega
    have h3 : -9223372036854775808 ≤ D := by omega
    have h4 : D ≤ 9223372036854775807 := by omega
    go_enter Try.func11, Try.ntmps11
    go_wp2
    go_ret
    exact ⟨⟨D, rfl, d0, d1⟩, rfl⟩

theorem BSeg.kp {N : Nat} {w w' : World} {a : Option Addr} {b off n : Nat} {f : Nat → Int} (h : BSeg w a b off n f) (hb : N ≤ b) (k : Kp N w w') : BSeg w' a b off n f :=
  ⟨h.at', fun i hi => (World.cell?_of_block (a := ⟨b, off + i, none⟩) (k.2 b hb (h.lt (by omega)))).trans (h.cell i hi)⟩

theorem toBytes_kp (p : Plc) (n : Nat) (f : Nat → Int) (W : World) (hs : BSeg W p.ad p.b p.off n f) (hn : n ≤ 1048576) :
    Calls Try.prog 17 #[.slice p.ad n p.cap] W fun e w' => ∃ q : Plc, e = .returned (.slice q.ad n q.cap) ∧ (∀ w'', Kp W.heap.size w' w'' → BSeg w'' q.ad q.b q.off n f) ∧ Ext W w' :=
  (toByteS_any p.ad p.b p.off n p.cap f W hs hn).mono fun e w' ⟨h1, h2, h3, h4⟩ => ⟨⟨some ⟨W.heap.size, 0, none⟩, W.heap.size, 0, n⟩, h1, fun w'' k => BSeg.kp (N := W.heap.size) (w := w') ⟨fun _ => rfl, fun i hi => by rw [Nat.zero_add]; exact h3.cell hi⟩ (Nat.le_refl _) k, h4⟩

theorem eqBytes_same (p p2 : Plc) (n : Nat) (f : Nat → Int) (W : World) (hs : BSeg W p.ad p.b p.off n f) (hs2 : BSeg W p2.ad p2.b p2.off n f) (hn : n ≤ 1048576) :
    Calls Try.prog 26 #[.slice p.ad n p.cap, .slice p2.ad n p2.cap] W fun e w' => e = .returned (.bool true) ∧ Ext W w' :=
  (eqByteS_any p.ad p.b p.off n p.cap f p2.ad p2.b p2.off n p2.cap f W hs hs2 hn).mono fun e w' ⟨h1, z, h2⟩ => ⟨by rw [h1, (alike_iff _ _ _).2 (fun _ _ => rfl)]; simp, by rw [h2]; exact below_drewN (Ext.refl _) _⟩

end Go.Proofs.Ytgdjaapjdmancaa
