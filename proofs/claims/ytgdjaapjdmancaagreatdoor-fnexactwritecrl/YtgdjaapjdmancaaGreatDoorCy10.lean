/- Extensions: lists of lists of numbers and extensions in memory; the laws' own helpers over them; extensions that came in, opened (written by mkexs.py). -/
import Derived.Test.YtgdjaapjdmancaaGreatDoorRows
import Derived.WalkKit
import Derived.ProofKit
import Derived.OpenShut
import Derived.ChangeOld
import Derived.Below
import Derived.Test.YtgdjaapjdmancaaGreatDoorCy01
import Derived.Test.YtgdjaapjdmancaaGreatDoorCy09
namespace Go.Proofs.YtgdjaapjdmancaaGreatDoor

section
set_option linter.unusedVariables false
set_option linter.unusedSimpArgs false
set_option maxRecDepth 100000

open Go.RowKit

/-- Where a list lies. -/
structure Plc where
  ad : Option Addr
  b : Nat
  off : Nat
  cap : Nat

/-- A list of lists of numbers in memory. -/
structure NSeg (w : World) (p : Plc) (q : Nat → Plc) (n : Nat) (ln : Nat → Nat) (f : Nat → Nat → Int) : Prop where
  at' : 0 < n → p.ad = some ⟨p.b, p.off, none⟩
  cell : ∀ i, i < n → w.cell? ⟨p.b, p.off + i, none⟩ = some (.slice (q i).ad (ln i) (q i).cap)
  row : ∀ i, i < n → Seg w (q i).ad (q i).b (q i).off (ln i) (f i)

theorem NSeg.lt {w : World} {p : Plc} {q : Nat → Plc} {n : Nat} {ln : Nat → Nat} {f : Nat → Nat → Int} (h : NSeg w p q n ln f) (hn : 0 < n) : p.b < w.heap.size := World.block_lt_of_cell? _ _ (h.cell 0 hn)

theorem NSeg.of_all {w w' : World} {p : Plc} {q : Nat → Plc} {n : Nat} {ln : Nat → Nat} {f : Nat → Nat → Int} (h : NSeg w p q n ln f) (e : Ext w w') : NSeg w' p q n ln f :=
  ⟨h.at', fun i hi => (Below.cell e (p := ⟨p.b, p.off + i, none⟩) (h.lt (by omega))).trans (h.cell i hi), fun i hi => (h.row i hi).of_all e⟩

theorem NSeg.kp {N : Nat} {w w' : World} {p : Plc} {q : Nat → Plc} {n : Nat} {ln : Nat → Nat} {f : Nat → Nat → Int} (h : NSeg w p q n ln f) (hb : N ≤ p.b) (hq : ∀ i, N ≤ (q i).b) (k : Kp N w w') : NSeg w' p q n ln f :=
  ⟨h.at', fun i hi => (World.cell?_of_block (a := ⟨p.b, p.off + i, none⟩) (k.2 p.b hb (h.lt (by omega)))).trans (h.cell i hi), fun i hi => (h.row i hi).kp (hq i) k⟩

/-- Extensions. -/
structure Ex where
  ca : Bool
  path : Int
  usage : Int
  nh : Nat
  fh : Nat → ByteArray
  nn : Nat
  ln : Nat → Nat
  fn : Nat → Nat → Int
  na : Nat
  fa : Nat → ByteArray
  nd : Nat
  fd : Nat → ByteArray
  np : Nat
  fp : Nat → Int

/-- Where their lists lie. -/
structure ExPl where
  h : Plc
  n : Plc
  ni : Nat → Plc
  a : Plc
  d : Plc
  p : Plc

structure ExIn (w : World) (x : Ex) (m : ExPl) : Prop where
  h : SSeg w m.h.ad m.h.b m.h.off x.nh x.fh
  n : NSeg w m.n m.ni x.nn x.ln x.fn
  a : SSeg w m.a.ad m.a.b m.a.off x.na x.fa
  d : SSeg w m.d.ad m.d.b m.d.off x.nd x.fd
  p : Seg w m.p.ad m.p.b m.p.off x.np x.fp

theorem ExIn.ext {w w' : World} {x : Ex} {m : ExPl} (h : ExIn w x m) (e : Ext w w') : ExIn w' x m := ⟨h.h.of_all e, h.n.of_all e, h.a.of_all e, h.d.of_all e, h.p.of_all e⟩

theorem szInts_any (a : Option Addr) (n cap : Nat) (l : Int) (w : World) (l0 : 0 ≤ l) (l1 : l ≤ 1048576) (hn : n ≤ 9223372036854775807) :
    Calls Tryz.prog 17 #[.slice a n cap, .int .i64 l] w fun e w' => (∃ z : Int, e = .returned (.int .i64 z) ∧ -1 ≤ z ∧ z ≤ l ∧ (0 ≤ z → (n : Int) ≤ l)) ∧ w' = w := by
  by_cases h : l < n
  · have h1 : l - (n : Int) < 0 := by omega
    have h2 : -9223372036854775808 ≤ l - (n : Int) := by omega
    go_enter Tryz.func17, Tryz.ntmps17
    go_wp2
    go_ret
    exact ⟨⟨-1, rfl, by omega, by omega, fun h => by omega⟩, rfl⟩
  · obtain ⟨D, hD⟩ : ∃ D, l - (n : Int) = D := ⟨_, rfl⟩
    have d0 : -1 ≤ D := by omega
    have d1 : D ≤ l := by omega
    have d2 : (n : Int) ≤ l := by omega
    have h1 : ¬ D < 0 := by omega
    have h3 : -9223372036854775808 ≤ D := by omega
    have h4 : D ≤ 9223372036854775807 := by omega
    go_enter Tryz.func17, Tryz.ntmps17
    go_wp2
    go_ret
    exact ⟨⟨D, rfl, d0, d1⟩, rfl⟩

/-- What toIntSS has done behind k rounds. -/
structure NCopying (w wr : World) (n k : Nat) (ln : Nat → Nat) (f : Nat → Nat → Int) : Prop where
  below : Ext w wr
  size : wr.heap.size = w.heap.size + 1 + k
  row : wr.rowIs w.heap.size 23 n (fun j => if j < k then .slice (some ⟨w.heap.size + 1 + j, 0, none⟩) (ln j) (ln j) else .slice none 0 0)
  each : ∀ j, j < k → wr.rowIs (w.heap.size + 1 + j) 3 (ln j) (fun i => .int .i64 (f j i))

theorem NCopying.seg {w w' : World} {n : Nat} {ln : Nat → Nat} {f : Nat → Nat → Int} (h : NCopying w w' n n ln f) : NSeg w' ⟨some ⟨w.heap.size, 0, none⟩, w.heap.size, 0, n⟩ (fun j => ⟨some ⟨w.heap.size + 1 + j, 0, none⟩, w.heap.size + 1 + j, 0, ln j⟩) n ln f :=
  ⟨fun _ => rfl, fun i hi => by
    show w'.cell? ⟨w.heap.size, 0 + i, none⟩ = _
    rw [Nat.zero_add, h.row.cell hi, if_pos hi], fun i hi => Seg.of_row (h.each i hi) (Nat.le_refl _)⟩

theorem eqInts_same (p p2 : Plc) (n : Nat) (f : Nat → Int) (W : World) (hs : Seg W p.ad p.b p.off n f) (hs2 : Seg W p2.ad p2.b p2.off n f) (hn : n ≤ 1048576) :
    Calls Tryz.prog 29 #[.slice p.ad n p.cap, .slice p2.ad n p2.cap] W fun e w' => e = .returned (.bool true) ∧ Ext W w' :=
  (eqIntS_any p.ad p.b p.off n p.cap f p2.ad p2.b p2.off n p2.cap f W hs hs2 hn).mono fun e w' ⟨h1, z, h2⟩ => ⟨by rw [h1, (alike_iff _ _ _).2 (fun _ _ => rfl)]; simp, by rw [h2]; exact below_drewN (Ext.refl _) _⟩
end

end Go.Proofs.YtgdjaapjdmancaaGreatDoor
