/- Extensions: lists of lists of numbers and extensions in memory; the laws' own helpers over them; extensions that came in, opened (written by mkexs.py). -/
import Derived.Test.YtfhiiakoilkbkaaGreatDoorCv03
namespace Go.Proofs.YtfhiiakoilkbkaaGreatDoor
set_option linter.unusedVariables false
set_option linter.unusedSimpArgs false
set_option maxRecDepth 100000
open Go.RowKit
structure Plc where
 ad : Option Addr
 b : Nat
 off : Nat
 cap : Nat
structure NSeg (w : World) (p : Plc) (q : Nat → Plc) (n : Nat) (ln : Nat → Nat) (f : Nat → Nat → Int) : Prop where
 at' : 0 < n → p.ad = some ⟨p.b, p.off, none⟩
 cell : ∀ i, i < n → w.cell? ⟨p.b, p.off + i, none⟩ = some (.slice (q i).ad (ln i) (q i).cap)
 row : ∀ i, i < n → Seg w (q i).ad (q i).b (q i).off (ln i) (f i)
theorem NSeg.lt {w : World} {p : Plc} {q : Nat → Plc} {n : Nat} {ln : Nat → Nat} {f : Nat → Nat → Int} (h : NSeg w p q n ln f) (hn : 0 < n) : p.b < w.heap.size := World.block_lt_of_cell? _ _ (h.cell 0 hn)
theorem NSeg.of_all {w w' : World} {p : Plc} {q : Nat → Plc} {n : Nat} {ln : Nat → Nat} {f : Nat → Nat → Int} (h : NSeg w p q n ln f) (e : Ext w w') : NSeg w' p q n ln f :=
 ⟨h.at', fun i hi => (Below.cell e (p := ⟨p.b, p.off + i, none⟩) (h.lt (by omega))).trans (h.cell i hi), fun i hi => (h.row i hi).of_all e⟩
theorem NSeg.kp {N : Nat} {w w' : World} {p : Plc} {q : Nat → Plc} {n : Nat} {ln : Nat → Nat} {f : Nat → Nat → Int} (h : NSeg w p q n ln f) (hb : N ≤ p.b) (hq : ∀ i, N ≤ (q i).b) (k : Kp N w w') : NSeg w' p q n ln f :=
 ⟨h.at', fun i hi => (World.cell?_of_block (a := ⟨p.b, p.off + i, none⟩) (k.2 p.b hb (h.lt (by omega)))).trans (h.cell i hi), fun i hi => (h.row i hi).kp (hq i) k⟩
structure Ex where
 ca : Bool
 path : Int
 usage : Int
 nh : Nat
 fh : Nat → ByteArray
 nn : Nat
 ln : Nat → Nat
 fn : Nat → Nat → Int
 na : Nat
 fa : Nat → ByteArray
 nd : Nat
 fd : Nat → ByteArray
 np : Nat
 fp : Nat → Int
structure ExPl where
 h : Plc
 n : Plc
 ni : Nat → Plc
 a : Plc
 d : Plc
 p : Plc
def exL (x : Ex) (m : ExPl) : List Value := [.bool x.ca, .int .i64 x.path, .int .i64 x.usage, .slice m.h.ad x.nh m.h.cap, .slice m.n.ad x.nn m.n.cap, .slice m.a.ad x.na m.a.cap, .slice m.d.ad x.nd m.d.cap, .slice m.p.ad x.np m.p.cap]
structure ExIn (w : World) (x : Ex) (m : ExPl) : Prop where
 h : SSeg w m.h.ad m.h.b m.h.off x.nh x.fh
 n : NSeg w m.n m.ni x.nn x.ln x.fn
 a : SSeg w m.a.ad m.a.b m.a.off x.na x.fa
 d : SSeg w m.d.ad m.d.b m.d.off x.nd x.fd
 p : Seg w m.p.ad m.p.b m.p.off x.np x.fp
theorem ExIn.ext {w w' : World} {x : Ex} {m : ExPl} (h : ExIn w x m) (e : Ext w w') : ExIn w' x m := ⟨h.h.of_all e, h.n.of_all e, h.a.of_all e, h.d.of_all e, h.p.of_all e⟩
structure ExSm (x : Ex) (B : Nat) : Prop where
 h : x.nh ≤ B
 hs : ∀ i, i < x.nh → (x.fh i).size ≤ B
 n : x.nn ≤ B
 ns : ∀ i, i < x.nn → x.ln i ≤ B
 a : x.na ≤ B
 as' : ∀ i, i < x.na → (x.fa i).size ≤ B
 d : x.nd ≤ B
 ds : ∀ i, i < x.nd → (x.fd i).size ≤ B
 p : x.np ≤ B
def preS (ln : Nat → Nat) : Nat → Nat
 | 0 => 0
 | i + 1 => preS ln i + ln i
theorem preS_le (ln : Nat → Nat) {i n : Nat} (h : i ≤ n) : preS ln i ≤ preS ln n := by
 induction n with
 | zero => obtain rfl : i = 0 := by omega
           exact Nat.le_refl _
 | succ n ih =>
  by_cases e : i = n + 1
  ·rw [e]; exact Nat.le_refl _
  ·exact Nat.le_trans (ih (by omega)) (Nat.le_add_right _ _)
def wX (x : Ex) : Nat := x.nh + x.nn + preS x.ln x.nn + x.na + x.nd + x.np
theorem szInts_any (a : Option Addr) (n cap : Nat) (l : Int) (w : World) (l0 : 0 ≤ l) (l1 : l ≤ 1048576) (hn : n ≤ 9223372036854775807) :
  Calls Tryz.prog 49 #[.slice a n cap, .int .i64 l] w fun e w' => (∃ z : Int, e = .returned (.int .i64 z) ∧ -1 ≤ z ∧ z ≤ l ∧ (0 ≤ z → z + (n : Int) ≤ l)) ∧ w' = w := by
 by_cases h : l < n
 ·have h1 : l - (n : Int) < 0 := by omega
  have h2 : -9223372036854775808 ≤ l - (n : Int) := by omega
  go_enter Tryz.func49, Tryz.ntmps49
  go_wp2
  go_ret
  exact ⟨⟨-1, rfl, by omega, by omega, fun h => by omega⟩, rfl⟩
 ·obtain ⟨D, hD⟩ : ∃ D, l - (n : Int) = D := ⟨_, rfl⟩
  have d0 : -1 ≤ D := by omega
  have d1 : D ≤ l := by omega
  have d2 : (n : Int) ≤ l := by omega
  have h1 : ¬ D < 0 := by omega
  have h3 : -9223372036854775808 ≤ D := by omega
  have h4 : D ≤ 9223372036854775807 := by omega
  go_enter Tryz.func49, Tryz.ntmps49
  go_wp2
  go_ret
  exact ⟨⟨D, rfl, d0, d1, fun _ => by omega⟩, rfl⟩
set_option maxHeartbeats 1600000 in
theorem szIntSS_any (p : Plc) (q : Nat → Plc) (n : Nat) (ln : Nat → Nat) (f : Nat → Nat → Int) (l : Int) (w : World) (hs : NSeg w p q n ln f) (hn : n ≤ 9223372036854775807) (hl : ∀ i, i < n → ln i ≤ 9223372036854775807) (l0 : 0 ≤ l) (l1 : l ≤ 1048576) :
  Calls Tryz.prog 50 #[.slice p.ad n p.cap, .int .i64 l] w fun e w' => (∃ z : Int, e = .returned (.int .i64 z) ∧ -1 ≤ z ∧ z ≤ l ∧ (0 ≤ z → z + (n : Int) + (preS ln n : Nat) ≤ l ∧ ∀ i, i < n → (ln i : Int) ≤ l)) ∧ w' = w := by
 obtain ⟨ad, b, off, cap⟩ := p
 have He := hide hl
 have Hs := hide hs
 clear hs hl
 dsimp only
 by_cases h : l < n
 ·have h1 : l - (n : Int) < 0 := by omega
  have h2 : -9223372036854775808 ≤ l - (n : Int) := by omega
  go_enter Tryz.func50, Tryz.ntmps50
  go_wp2
  go_ret
  exact ⟨⟨-1, rfl, by omega, by omega, fun h => by omega⟩, rfl⟩
 ·have h1 : ¬ l - (n : Int) < 0 := by omega
  go_enter Tryz.func50, Tryz.ntmps50
  go_wp2
  go_loopw [1, 5] (fun c i wr => wr = w ∧ ∃ (k : Nat) (z : Int), k ≤ n ∧ i = .int .i64 k ∧ c = .int .i64 z ∧ 0 ≤ z ∧ z + (n : Int) + (preS ln k : Nat) ≤ l ∧ ∀ j, j < k → (ln j : Int) ≤ l) (fun _ i _ => n - (intOf i).toNat)
  case atStart => exact ⟨rfl, 0, l - n, Nat.zero_le _, rfl, rfl, by omega, by rw [show preS ln 0 = 0 from rfl]; omega, fun j hj => absurd hj (Nat.not_lt_zero _)⟩
  case round =>
   obtain ⟨rfl, k, z, hk, rfl, rfl, z0, z1, hd⟩ := hrel
   have HD := hide hd
   clear hd
   by_cases hlt : k < n
   ·have hat := Hs.out.at' (by omega)
    dsimp only at hat
    subst hat
    have c1 := Hs.out.cell k hlt
    dsimp only at c1
    have HZ := hide (szInts_any (q k).ad (ln k) (q k).cap z wr z0 (by omega) (He.out k hlt))
    have hkn : (k : Int) < (n : Int) := by omega
    go_wp2_with fail
    refine HZ.out.mono ?_
    rintro e W ⟨⟨y, rfl, y0, y1, hy⟩, hw⟩
    obtain rfl := hw.symm
    clear hw
    have HY := hide hy
    clear hy HZ
    by_cases hneg : y < 0
    ·go_wp2
     go_ret
     exact ⟨⟨-1, rfl, by omega, by omega, fun h => by omega⟩, rfl⟩
    ·go_wp2
     go_roundw
     case rel => exact ⟨trivial, k + 1, _, by omega, by go_num, rfl, by omega, by rw [show preS ln (k + 1) = preS ln k + ln k from rfl]; have := HY.out (by omega); omega, fun j hj => by
            by_cases e : j = k
            ·subst e; have := HY.out (by omega); omega
            ·exact HD.out j (by omega)⟩
     case measure => simp [intOf]; omega
   ·obtain rfl : k = n := by omega
    go_wp2
    go_ret
    exact ⟨⟨z, rfl, by omega, by omega, fun _ => ⟨by omega, HD.out⟩⟩, rfl⟩
theorem Tryz.infoIS : (Tryz.prog.info? 23).map (fun i => (i.zero, i.size, i.bytes)) = some (some (.slice none 0 0), 1, 24) := by kernel_rfl
structure NCopying (w wr : World) (n k : Nat) (ln : Nat → Nat) (f : Nat → Nat → Int) : Prop where
 below : Ext w wr
 size : wr.heap.size = w.heap.size + 1 + k
 row : wr.rowIs w.heap.size 23 n (fun j => if j < k then .slice (some ⟨w.heap.size + 1 + j, 0, none⟩) (ln j) (ln j) else .slice none 0 0)
 each : ∀ j, j < k → wr.rowIs (w.heap.size + 1 + j) 3 (ln j) (fun i => .int .i64 (f j i))
set_option maxHeartbeats 1600000 in
theorem toIntSS_any (p : Plc) (q : Nat → Plc) (n : Nat) (ln : Nat → Nat) (f : Nat → Nat → Int) (w : World) (hs : NSeg w p q n ln f) (hn : n ≤ 1048576) (hl : ∀ i, i < n → ln i ≤ 1048576) :
  Calls Tryz.prog 59 #[.slice p.ad n p.cap] w fun e w' => e = .returned (.slice (some ⟨w.heap.size, 0, none⟩) n n) ∧ NCopying w w' n n ln f := by
 obtain ⟨ad, b, off, cap⟩ := p
 dsimp only
 have hmk := run_make_row' (P := Tryz.prog) 34 23 (.slice none 0 0) 24 Tryz.underlying34 Tryz.infoIS rfl .i64 .i64 n (by omega) (by omega)
 have Hs := hide hs
 have Hl := hide hl
 clear hs hl
 go_enter Tryz.func59, Tryz.ntmps59
 go_wp2
 clear hmk
 go_loopw [4] (fun i wr => ∃ k : Nat, k ≤ n ∧ i = .int .i64 k ∧ NCopying w wr n k ln f) (fun i _ => n - (intOf i).toNat)
 case atStart => exact ⟨0, Nat.zero_le _, rfl, ⟨Ext.alloc _ _, by simp, (World.rowIs_made w _ n 23).congr (fun j _ => by simp), fun j hj => absurd hj (Nat.not_lt_zero _)⟩⟩
 case round =>
  obtain ⟨k, hk, rfl, hI⟩ := hrel
  by_cases hlt : k < n
  ·have hs' := Hs.out.of_all hI.below
   have hat := Hs.out.at' (by omega)
   dsimp only at hat
   subst hat
   have c1 := hs'.cell k hlt
   dsimp only at c1
   have HT := hide (toIntS_any (q k).ad (q k).b (q k).off (ln k) (q k).cap (f k) wr (hs'.row k hlt) (Hl.out k hlt))
   have hkn : (k : Int) < (n : Int) := by omega
   have HI := hide hI
   clear hI hs'
   go_wp2_with fail
   refine HT.out.mono ?_
   rintro e W ⟨rfl, sW, hR, hE⟩
   have hrow := rowIs_below HI.out.row hE HI.out.row.lt
   have r0 : W.cell? ⟨w.heap.size, k, none⟩ = some (.slice none 0 0) := (hrow.cell hlt).trans (by simp)
   have f0 := hrow.frozen k
   have HJ : Hid (NCopying w (W.setCell ⟨w.heap.size, k, none⟩ (.slice (some ⟨wr.heap.size, 0, none⟩) (ln k) (ln k))) n (k + 1) ln f) := by
    have hz := HI.out.size
    refine ⟨Below.setCell (Ext.trans HI.out.below hE) (Nat.le_refl _) _, by simp [World.setCell, sW, hz]; omega, (hrow.set k _).congr (fun j _ => ?_), fun j hj => ?_⟩
    ·by_cases e : j = k
     ·subst e
      rw [if_pos rfl, if_pos (by omega), hz]
     ·rw [if_neg e]
      by_cases h1 : j < k
      ·rw [if_pos h1, if_pos (by omega)]
      ·rw [if_neg h1, if_neg (by omega)]
    ·refine World.rowIs.setOther ?_ (by simp; omega) _
     by_cases e : j = k
     ·subst e
      rw [← hz]
      exact hR
     ·exact rowIs_below (HI.out.each j (by omega)) hE (HI.out.each j (by omega)).lt
   clear hrow hR hE sW HI HT
   go_wp2
   go_roundw
   case rel => exact ⟨k + 1, by omega, by go_num, HJ.out⟩
   case measure => simp [intOf]; omega
  ·obtain rfl : k = n := by omega
   go_wp2
   go_ret
   exact ⟨rfl, hI⟩
theorem NCopying.seg {w w' : World} {n : Nat} {ln : Nat → Nat} {f : Nat → Nat → Int} (h : NCopying w w' n n ln f) : NSeg w' ⟨some ⟨w.heap.size, 0, none⟩, w.heap.size, 0, n⟩ (fun j => ⟨some ⟨w.heap.size + 1 + j, 0, none⟩, w.heap.size + 1 + j, 0, ln j⟩) n ln f :=
 ⟨fun _ => rfl, fun i hi => by
  show w'.cell? ⟨w.heap.size, 0 + i, none⟩ = _
  rw [Nat.zero_add, h.row.cell hi, if_pos hi], fun i hi => Seg.of_row (h.each i hi) (Nat.le_refl _)⟩
set_option maxHeartbeats 1600000 in
theorem eqIntSS_same (p p2 : Plc) (q q2 : Nat → Plc) (n : Nat) (ln : Nat → Nat) (f : Nat → Nat → Int) (w : World) (hs : NSeg w p q n ln f) (hs2 : NSeg w p2 q2 n ln f) (hn : n ≤ 1048576) (hl : ∀ i, i < n → ln i ≤ 1048576) :
  Calls Tryz.prog 73 #[.slice p.ad n p.cap, .slice p2.ad n p2.cap] w fun e w' => e = .returned (.bool true) ∧ Ext w w' := by
 obtain ⟨ad, b, off, cap⟩ := p
 obtain ⟨ad2, b2, off2, cap2⟩ := p2
 dsimp only
 have Hs := hide hs
 have Hs2 := hide hs2
 have Hl := hide hl
 clear hs hs2 hl
 go_enter Tryz.func73, Tryz.ntmps73
 go_wp2
 go_loopw [5] (fun i wr => ∃ k : Nat, k ≤ n ∧ i = .int .i64 k ∧ Ext w wr) (fun i _ => n - (intOf i).toNat)
 case atStart => exact ⟨0, Nat.zero_le _, rfl, Ext.refl _⟩
 case round =>
  obtain ⟨k, hk, rfl, hE⟩ := hrel
  by_cases hlt : k < n
  ·have g1 := Hs.out.of_all hE
   have g2 := Hs2.out.of_all hE
   have hat := Hs.out.at' (by omega)
   have hat2 := Hs2.out.at' (by omega)
   dsimp only at hat hat2
   subst hat hat2
   have c1 := g1.cell k hlt
   have c2 := g2.cell k hlt
   dsimp only at c1 c2
   have k1 := cell_regrown c1
   have k2 := cell_regrown c2
   have hkn : (k : Int) < (n : Int) := by omega
   have HQ : Hid (∀ W, Ext wr W → Calls Tryz.prog 13 #[.slice (q k).ad (ln k) (q k).cap, .slice (q2 k).ad (ln k) (q2 k).cap] W fun e w' => e = .returned (.bool true) ∧ Ext W w') := fun W hW =>
    (eqIntS_any (q k).ad (q k).b (q k).off (ln k) (q k).cap (f k) (q2 k).ad (q2 k).b (q2 k).off (ln k) (q2 k).cap (f k) W ((g1.row k hlt).of_all hW) ((g2.row k hlt).of_all hW) (Hl.out k hlt)).mono fun e w' ⟨h1, z, h2⟩ => ⟨by rw [h1, (alike_iff _ _ _).2 (fun _ _ => rfl)]; simp, by rw [h2]; exact below_drewN (Ext.refl _) _⟩
   have HX : Hid (∀ d os, Calls Tryz.prog 13 #[.slice (q k).ad (ln k) (q k).cap, .slice (q2 k).ad (ln k) (q2 k).cap] (Sort.grow (redrawn wr d) os) fun e w'' => e = .returned (.bool true) ∧ ∃ p : Regrown, w'' = Sort.grow (redrawn wr p.d) p.os) := fun d os => Calls.regrown_of (HQ.out _ (below_regrown wr d os))
   have HE := hide hE
   clear hE g1 g2 HQ
   go_wp2_with fail
   refine wp_region_quiet_below (by kernel_rfl) (by kernel_rfl) ?_
   repeat (first | go_big_quiet_step (first | (go_at_call 13; exact HX.out _ _)) | quiet_step (first | (go_at_call 13; exact HX.out _ _)))
   refine wpQuiet_nil ?_
   intro _ hw'
   obtain ⟨⟨dq, osq⟩, hw''⟩ := hw'
   subst hw''
   have HE1 : Hid (Ext wr (Sort.grow (redrawn wr dq) osq)) := hide (below_regrown wr dq osq)
   go_wp2
   go_roundw
   case rel => exact ⟨k + 1, by omega, by go_num, Ext.trans HE.out HE1.out⟩
   case measure => simp [intOf]; omega
  ·obtain rfl : k = n := by omega
   go_wp2
   go_ret
   exact ⟨rfl, hE⟩
theorem toStrs_kp (p : Plc) (n : Nat) (f : Nat → ByteArray) (W : World) (hs : SSeg W p.ad p.b p.off n f) (hn : n ≤ 1048576) :
  Calls Tryz.prog 26 #[.slice p.ad n p.cap] W fun e w' => ∃ q : Plc, e = .returned (.slice q.ad n q.cap) ∧ (∀ w'', Kp W.heap.size w' w'' → SSeg w'' q.ad q.b q.off n f) ∧ Ext W w' :=
 (toStringS_any p.ad p.b p.off n p.cap f W hs hn).mono fun e w' ⟨h1, h2⟩ => ⟨⟨some ⟨W.heap.size, 0, none⟩, W.heap.size, 0, n⟩, h1, fun w'' k => h2.seg.kp (Nat.le_refl _) k, h2.below⟩
theorem toInts_kp (p : Plc) (n : Nat) (f : Nat → Int) (W : World) (hs : Seg W p.ad p.b p.off n f) (hn : n ≤ 1048576) :
  Calls Tryz.prog 9 #[.slice p.ad n p.cap] W fun e w' => ∃ q : Plc, e = .returned (.slice q.ad n q.cap) ∧ (∀ w'', Kp W.heap.size w' w'' → Seg w'' q.ad q.b q.off n f) ∧ Ext W w' :=
 (toIntS_any p.ad p.b p.off n p.cap f W hs hn).mono fun e w' ⟨h1, h2, h3, h4⟩ => ⟨⟨some ⟨W.heap.size, 0, none⟩, W.heap.size, 0, n⟩, h1, fun w'' k => (Seg.of_row h3 (Nat.le_refl _)).kp (Nat.le_refl _) k, h4⟩
theorem toNets_kp (p : Plc) (q : Nat → Plc) (n : Nat) (ln : Nat → Nat) (f : Nat → Nat → Int) (W : World) (hs : NSeg W p q n ln f) (hn : n ≤ 1048576) (hl : ∀ i, i < n → ln i ≤ 1048576) :
  Calls Tryz.prog 59 #[.slice p.ad n p.cap] W fun e w' => ∃ r : Plc × (Nat → Plc), e = .returned (.slice r.1.ad n r.1.cap) ∧ (∀ w'', Kp W.heap.size w' w'' → NSeg w'' r.1 r.2 n ln f) ∧ Ext W w' :=
 (toIntSS_any p q n ln f W hs hn hl).mono fun e w' ⟨h1, h2⟩ => ⟨⟨⟨some ⟨W.heap.size, 0, none⟩, W.heap.size, 0, n⟩, fun j => ⟨some ⟨W.heap.size + 1 + j, 0, none⟩, W.heap.size + 1 + j, 0, ln j⟩⟩, h1, fun w'' k => NSeg.kp (N := W.heap.size) h2.seg (Nat.le_refl _) (fun i => by show W.heap.size ≤ W.heap.size + 1 + i; omega) k, h2.below⟩
theorem eqInts_same (p p2 : Plc) (n : Nat) (f : Nat → Int) (W : World) (hs : Seg W p.ad p.b p.off n f) (hs2 : Seg W p2.ad p2.b p2.off n f) (hn : n ≤ 1048576) :
  Calls Tryz.prog 13 #[.slice p.ad n p.cap, .slice p2.ad n p2.cap] W fun e w' => e = .returned (.bool true) ∧ Ext W w' :=
 (eqIntS_any p.ad p.b p.off n p.cap f p2.ad p2.b p2.off n p2.cap f W hs hs2 hn).mono fun e w' ⟨h1, z, h2⟩ => ⟨by rw [h1, (alike_iff _ _ _).2 (fun _ _ => rfl)]; simp, by rw [h2]; exact below_drewN (Ext.refl _) _⟩
set_option maxHeartbeats 6400000 in
set_option maxRecDepth 100000 in
theorem szExts_sum (x : Ex) (m : ExPl) (l : Int) (w : World) (hI : ExIn w x m) (hS : ExSm x 9223372036854775807) (l0 : 0 ≤ l) (l1 : l ≤ 1048576) :
  Calls Tryz.prog 20 #[.agg (exL x m).toArray, .int .i64 l] w fun e w' => (∃ z : Int, e = .returned (.int .i64 z) ∧ -1 ≤ z ∧ z ≤ l ∧ (0 ≤ z → z + (wX x : Nat) ≤ l ∧ ExSm x 1048576)) ∧ Ext w w' := by
 obtain ⟨V, hV⟩ : ∃ V, w.alloc (.cells (exL x m).toArray 36) = V := ⟨_, rfl⟩
 obtain ⟨B0, hE, -⟩ := box1 w (exL x m) 36 (w1 := V) (by rw [← hV]; exact Ext.refl _)
 have HB := hide B0
 have HE := hide hE
 have HI := hide (hI.ext hE)
 have HS := hide hS
 clear B0 hE hI hS
 have c0 := (HB.out 3 _ rfl).1
 have c1 := (HB.out 4 _ rfl).1
 have c2 := (HB.out 5 _ rfl).1
 have c3 := (HB.out 6 _ rfl).1
 have c4 := (HB.out 7 _ rfl).1
 go_enter Tryz.func20, Tryz.ntmps20
 go_wp2_with fail
 refine (szStringS_any m.h.ad m.h.b m.h.off x.nh m.h.cap x.fh l V ⟨HI.out.h, HS.out.h, HS.out.hs⟩ (by omega) (by omega)).mono ?_
 rintro e W ⟨⟨z0, rfl, z00, z01, hz0⟩, hw⟩
 obtain rfl := hw.symm
 clear hw
 have Hz0 := hide hz0
 clear hz0
 by_cases h0 : z0 < 0
 ·go_wp2
  go_ret
  exact ⟨⟨-1, rfl, by omega, by omega, fun h => by omega⟩, HE.out⟩
 go_wp2_with fail
 refine (szIntSS_any m.n m.ni x.nn x.ln x.fn z0 V HI.out.n HS.out.n HS.out.ns (by omega) (by omega)).mono ?_
 rintro e W ⟨⟨z1, rfl, z10, z11, hz1⟩, hw⟩
 obtain rfl := hw.symm
 clear hw
 have Hz1 := hide hz1
 clear hz1
 by_cases h1 : z1 < 0
 ·go_wp2
  go_ret
  exact ⟨⟨-1, rfl, by omega, by omega, fun h => by omega⟩, HE.out⟩
 go_wp2_with fail
 refine (szStringS_any m.a.ad m.a.b m.a.off x.na m.a.cap x.fa z1 V ⟨HI.out.a, HS.out.a, HS.out.as'⟩ (by omega) (by omega)).mono ?_
 rintro e W ⟨⟨z2, rfl, z20, z21, hz2⟩, hw⟩
 obtain rfl := hw.symm
 clear hw
 have Hz2 := hide hz2
 clear hz2
 by_cases h2 : z2 < 0
 ·go_wp2
  go_ret
  exact ⟨⟨-1, rfl, by omega, by omega, fun h => by omega⟩, HE.out⟩
 go_wp2_with fail
 refine (szStringS_any m.d.ad m.d.b m.d.off x.nd m.d.cap x.fd z2 V ⟨HI.out.d, HS.out.d, HS.out.ds⟩ (by omega) (by omega)).mono ?_
 rintro e W ⟨⟨z3, rfl, z30, z31, hz3⟩, hw⟩
 obtain rfl := hw.symm
 clear hw
 have Hz3 := hide hz3
 clear hz3
 by_cases h3 : z3 < 0
 ·go_wp2
  go_ret
  exact ⟨⟨-1, rfl, by omega, by omega, fun h => by omega⟩, HE.out⟩
 go_wp2_with fail
 refine (szInts_any m.p.ad x.np m.p.cap z3 V (by omega) (by omega) HS.out.p).mono ?_
 rintro e W ⟨⟨z4, rfl, z40, z41, hz4⟩, hw⟩
 obtain rfl := hw.symm
 clear hw
 have Hz4 := hide hz4
 clear hz4
 by_cases h4 : z4 < 0
 ·go_wp2
  go_ret
  exact ⟨⟨-1, rfl, by omega, by omega, fun h => by omega⟩, HE.out⟩
 go_wp2
 go_ret
 exact ⟨⟨z4, rfl, by omega, by omega, fun _ => by have e0 := Hz0.out (by omega); have e1 := Hz1.out (by omega); have e2 := Hz2.out (by omega); have e3 := Hz3.out (by omega); have e4 := Hz4.out (by omega); exact ⟨by unfold wX; omega, by omega, fun i hi => by have := e0.2 i hi; omega, by omega, fun i hi => by have := e1.2 i hi; omega, by omega, fun i hi => by have := e2.2 i hi; omega, by omega, fun i hi => by have := e3.2 i hi; omega, by omega⟩⟩, HE.out⟩
def GivesEx (w : World) (x : Ex) (e : Ending) (w' : World) : Prop := ∃ m : ExPl, e = .returned (.agg (exL x m).toArray) ∧ (∀ w'', Kp w.heap.size w' w'' → ExIn w'' x m) ∧ Ext w w'
set_option maxHeartbeats 12800000 in
set_option maxRecDepth 100000 in
theorem toExts_any (x : Ex) (m : ExPl) (w : World) (hI : ExIn w x m) (hS : ExSm x 1048576) :
  Calls Tryz.prog 28 #[.agg (exL x m).toArray] w fun e w' => GivesEx w x e w' := by
 obtain ⟨V, hV⟩ : ∃ V, ((w.alloc (.cells (exL x m).toArray 36)).alloc (.cells #[.bool false, .int .i64 0, .int .i64 0, .slice none 0 0, .slice none 0 0, .slice none 0 0, .slice none 0 0, .slice none 0 0] 52)).alloc (.cells #[.bool false, .int .i64 0, .int .i64 0, .slice none 0 0, .slice none 0 0, .slice none 0 0, .slice none 0 0, .slice none 0 0] 52) = V := ⟨_, rfl⟩
 have HM := hide (mkg_start w (exL x m) [.bool false, .int .i64 0, .int .i64 0, .slice none 0 0, .slice none 0 0, .slice none 0 0, .slice none 0 0, .slice none 0 0] [.bool false, .int .i64 0, .int .i64 0, .slice none 0 0, .slice none 0 0, .slice none 0 0, .slice none 0 0, .slice none 0 0] 36 52 52 hV)
 have HN : Hid (w.heap.size + 1 + 1 < V.heap.size) := hide HM.out.lt
 have HI := hide hI
 have HS := hide hS
 clear hI hS
 have HF : Hid (∀ w'', Kp V.heap.size V w'' → True) := hide (fun _ _ => trivial)
 have HG : Hid (V.heap.size ≤ V.heap.size) := hide (Nat.le_refl _)
 have a0 := (HM.out.a 0 _ rfl).1
 have a1 := (HM.out.a 1 _ rfl).1
 have a2 := (HM.out.a 2 _ rfl).1
 have a3 := (HM.out.a 3 _ rfl).1
 have o0 := (HM.out.o 0 _ rfl).1
 have f0 := (HM.out.o 0 _ rfl).2
 have o1 := (HM.out.o 1 _ rfl).1
 have f1 := (HM.out.o 1 _ rfl).2
 have o2 := (HM.out.o 2 _ rfl).1
 have f2 := (HM.out.o 2 _ rfl).2
 have HM1 := hide (Mkg.set (Mkg.set (Mkg.set HM.out 0 (.bool x.ca) (by simp [exL])) 1 (.int .i64 x.path) (by simp [exL])) 2 (.int .i64 x.usage) (by simp [exL]))
 have HF1 := hide (later_set (later_set (later_set HF.out HN.out 0 (.bool x.ca)) HN.out 1 (.int .i64 x.path)) HN.out 2 (.int .i64 x.usage))
 have HL1 : Hid (V.heap.size ≤ (((V.setCell ⟨w.heap.size + 1 + 1, 0, none⟩ (.bool x.ca)).setCell ⟨w.heap.size + 1 + 1, 1, none⟩ (.int .i64 x.path)).setCell ⟨w.heap.size + 1 + 1, 2, none⟩ (.int .i64 x.usage)).heap.size ∧ 0 < V.heap.size + 1) := hide ⟨Nat.le_of_eq (by first | rfl | simp [World.setCell, size_putL]), Nat.succ_pos _⟩
 go_enter Tryz.func28, Tryz.ntmps28
 go_wp2_with fail
 refine (toStrs_kp m.h x.nh x.fh _ (HI.out.h.of_all HM1.out.ext) HS.out.h).mono ?_
 rintro e w1 ⟨ph, rfl, hS0, hEW⟩
 clear a0 a1 a2 a3 o0 f0 o1 f1 o2 f2
 replace HM : Hid (Mkg w w1 (exL x m) [.bool false, .int .i64 0, .int .i64 0, .slice none 0 0, .slice none 0 0, .slice none 0 0, .slice none 0 0, .slice none 0 0] [.bool x.ca, .int .i64 x.path, .int .i64 x.usage, .slice none 0 0, .slice none 0 0, .slice none 0 0, .slice none 0 0, .slice none 0 0]) := hide (Mkg.later HM1.out hEW)
 replace HF := hide (later_and (later_ext HF1.out hEW) (Nat.le_trans HG.out HL1.out.1) hS0)
 replace HG : Hid (V.heap.size ≤ w1.heap.size) := hide (Nat.le_trans HG.out (Nat.le_trans HL1.out.1 (Below.size hEW)))
 clear hS0 hEW HM1 HF1 HL1
 have a4 := (HM.out.a 4 _ rfl).1
 have o3 := (HM.out.o 3 _ rfl).1
 have f3 := (HM.out.o 3 _ rfl).2
 have HM1 := hide (Mkg.set HM.out 3 (.slice ph.ad x.nh ph.cap) (by simp [exL]))
 have HF1 := hide (later_set HF.out HN.out 3 (.slice ph.ad x.nh ph.cap))
 have HL1 : Hid (w1.heap.size ≤ (w1.setCell ⟨w.heap.size + 1 + 1, 3, none⟩ (.slice ph.ad x.nh ph.cap)).heap.size ∧ 0 < w1.heap.size + 1) := hide ⟨Nat.le_of_eq (by first | rfl | simp [World.setCell, size_putL]), Nat.succ_pos _⟩
 go_wp2_with fail
 refine (toNets_kp m.n m.ni x.nn x.ln x.fn _ (HI.out.n.of_all HM1.out.ext) HS.out.n HS.out.ns).mono ?_
 rintro e w2 ⟨pn, rfl, hS1, hEW⟩
 clear a4 o3 f3
 replace HM : Hid (Mkg w w2 (exL x m) [.bool false, .int .i64 0, .int .i64 0, .slice none 0 0, .slice none 0 0, .slice none 0 0, .slice none 0 0, .slice none 0 0] [.bool x.ca, .int .i64 x.path, .int .i64 x.usage, .slice ph.ad x.nh ph.cap, .slice none 0 0, .slice none 0 0, .slice none 0 0, .slice none 0 0]) := hide (Mkg.later HM1.out hEW)
 replace HF := hide (later_and (later_ext HF1.out hEW) (Nat.le_trans HG.out HL1.out.1) hS1)
 replace HG : Hid (V.heap.size ≤ w2.heap.size) := hide (Nat.le_trans HG.out (Nat.le_trans HL1.out.1 (Below.size hEW)))
 clear hS1 hEW HM1 HF1 HL1
 have a5 := (HM.out.a 5 _ rfl).1
 have o4 := (HM.out.o 4 _ rfl).1
 have f4 := (HM.out.o 4 _ rfl).2
 have HM1 := hide (Mkg.set HM.out 4 (.slice pn.1.ad x.nn pn.1.cap) (by simp [exL]))
 have HF1 := hide (later_set HF.out HN.out 4 (.slice pn.1.ad x.nn pn.1.cap))
 have HL1 : Hid (w2.heap.size ≤ (w2.setCell ⟨w.heap.size + 1 + 1, 4, none⟩ (.slice pn.1.ad x.nn pn.1.cap)).heap.size ∧ 0 < w2.heap.size + 1) := hide ⟨Nat.le_of_eq (by first | rfl | simp [World.setCell, size_putL]), Nat.succ_pos _⟩
 go_wp2_with fail
 refine (toStrs_kp m.a x.na x.fa _ (HI.out.a.of_all HM1.out.ext) HS.out.a).mono ?_
 rintro e w3 ⟨pa, rfl, hS2, hEW⟩
 clear a5 o4 f4
 replace HM : Hid (Mkg w w3 (exL x m) [.bool false, .int .i64 0, .int .i64 0, .slice none 0 0, .slice none 0 0, .slice none 0 0, .slice none 0 0, .slice none 0 0] [.bool x.ca, .int .i64 x.path, .int .i64 x.usage, .slice ph.ad x.nh ph.cap, .slice pn.1.ad x.nn pn.1.cap, .slice none 0 0, .slice none 0 0, .slice none 0 0]) := hide (Mkg.later HM1.out hEW)
 replace HF := hide (later_and (later_ext HF1.out hEW) (Nat.le_trans HG.out HL1.out.1) hS2)
 replace HG : Hid (V.heap.size ≤ w3.heap.size) := hide (Nat.le_trans HG.out (Nat.le_trans HL1.out.1 (Below.size hEW)))
 clear hS2 hEW HM1 HF1 HL1
 have a6 := (HM.out.a 6 _ rfl).1
 have o5 := (HM.out.o 5 _ rfl).1
 have f5 := (HM.out.o 5 _ rfl).2
 have HM1 := hide (Mkg.set HM.out 5 (.slice pa.ad x.na pa.cap) (by simp [exL]))
 have HF1 := hide (later_set HF.out HN.out 5 (.slice pa.ad x.na pa.cap))
 have HL1 : Hid (w3.heap.size ≤ (w3.setCell ⟨w.heap.size + 1 + 1, 5, none⟩ (.slice pa.ad x.na pa.cap)).heap.size ∧ 0 < w3.heap.size + 1) := hide ⟨Nat.le_of_eq (by first | rfl | simp [World.setCell, size_putL]), Nat.succ_pos _⟩
 go_wp2_with fail
 refine (toStrs_kp m.d x.nd x.fd _ (HI.out.d.of_all HM1.out.ext) HS.out.d).mono ?_
 rintro e w4 ⟨pd, rfl, hS3, hEW⟩
 clear a6 o5 f5
 replace HM : Hid (Mkg w w4 (exL x m) [.bool false, .int .i64 0, .int .i64 0, .slice none 0 0, .slice none 0 0, .slice none 0 0, .slice none 0 0, .slice none 0 0] [.bool x.ca, .int .i64 x.path, .int .i64 x.usage, .slice ph.ad x.nh ph.cap, .slice pn.1.ad x.nn pn.1.cap, .slice pa.ad x.na pa.cap, .slice none 0 0, .slice none 0 0]) := hide (Mkg.later HM1.out hEW)
 replace HF := hide (later_and (later_ext HF1.out hEW) (Nat.le_trans HG.out HL1.out.1) hS3)
 replace HG : Hid (V.heap.size ≤ w4.heap.size) := hide (Nat.le_trans HG.out (Nat.le_trans HL1.out.1 (Below.size hEW)))
 clear hS3 hEW HM1 HF1 HL1
 have a7 := (HM.out.a 7 _ rfl).1
 have o6 := (HM.out.o 6 _ rfl).1
 have f6 := (HM.out.o 6 _ rfl).2
 have HM1 := hide (Mkg.set HM.out 6 (.slice pd.ad x.nd pd.cap) (by simp [exL]))
 have HF1 := hide (later_set HF.out HN.out 6 (.slice pd.ad x.nd pd.cap))
 have HL1 : Hid (w4.heap.size ≤ (w4.setCell ⟨w.heap.size + 1 + 1, 6, none⟩ (.slice pd.ad x.nd pd.cap)).heap.size ∧ 0 < w4.heap.size + 1) := hide ⟨Nat.le_of_eq (by first | rfl | simp [World.setCell, size_putL]), Nat.succ_pos _⟩
 go_wp2_with fail
 refine (toInts_kp m.p x.np x.fp _ (HI.out.p.of_all HM1.out.ext) HS.out.p).mono ?_
 rintro e w5 ⟨pp, rfl, hS4, hEW⟩
 clear a7 o6 f6
 replace HM : Hid (Mkg w w5 (exL x m) [.bool false, .int .i64 0, .int .i64 0, .slice none 0 0, .slice none 0 0, .slice none 0 0, .slice none 0 0, .slice none 0 0] [.bool x.ca, .int .i64 x.path, .int .i64 x.usage, .slice ph.ad x.nh ph.cap, .slice pn.1.ad x.nn pn.1.cap, .slice pa.ad x.na pa.cap, .slice pd.ad x.nd pd.cap, .slice none 0 0]) := hide (Mkg.later HM1.out hEW)
 replace HF := hide (later_and (later_ext HF1.out hEW) (Nat.le_trans HG.out HL1.out.1) hS4)
 replace HG : Hid (V.heap.size ≤ w5.heap.size) := hide (Nat.le_trans HG.out (Nat.le_trans HL1.out.1 (Below.size hEW)))
 clear hS4 hEW HM1 HF1 HL1
 have o7 := (HM.out.o 7 _ rfl).1
 have f7 := (HM.out.o 7 _ rfl).2
 have HM1 := hide (Mkg.set HM.out 7 (.slice pp.ad x.np pp.cap) (by simp [exL]))
 have HF1 := hide (later_set HF.out HN.out 7 (.slice pp.ad x.np pp.cap))
 obtain ⟨V2, hV2⟩ : ∃ V2, (w5.setCell ⟨w.heap.size + 1 + 1, 7, none⟩ (.slice pp.ad x.np pp.cap)) = V2 := ⟨_, rfl⟩
 have hM1 : Mkg w V2 (exL x m) [.bool false, .int .i64 0, .int .i64 0, .slice none 0 0, .slice none 0 0, .slice none 0 0, .slice none 0 0, .slice none 0 0] (exL x ⟨ph, pn.1, pn.2, pa, pd, pp⟩) := hV2 ▸ HM1.out
 have hF1 := HF1.out
 rw [hV2] at hF1
 have hldE := run_ld (P := Tryz.prog) 52 (exL x ⟨ph, pn.1, pn.2, pa, pd, pp⟩) V2 (by kernel_rfl) (by kernel_rfl) (w.heap.size + 1 + 1) 0 (Blk.ld hM1.o 0 _ (fun j v h => by rw [Nat.zero_add]; exact h))
 have hstE := run_st (P := Tryz.prog) 52 (exL x ⟨ph, pn.1, pn.2, pa, pd, pp⟩) V2 (by kernel_rfl) (by simp [exL, Value.oneCell']) (w.heap.size + 1) 0 (Blk.st hM1.d 0 _ (by simp [exL]))
 have HB3 := hide (Blk.putAll1 hM1.d (vs := exL x ⟨ph, pn.1, pn.2, pa, pd, pp⟩) rfl)
 have HX3 := hide (below_putL (Nat.le_succ _) (exL x ⟨ph, pn.1, pn.2, pa, pd, pp⟩) 0 _ hM1.ext)
 have HF3 := hide (later_put hF1 (Nat.lt_of_succ_lt HN.out) 0 (exL x ⟨ph, pn.1, pn.2, pa, pd, pp⟩))
 clear hM1 hF1 HM1 HF1 HM HF
 go_wp2_with (first | (refine wpList_ld (by first | rfl | simp [Region.wanted, yielded]) 52 _ rfl _ rfl _ hldE ?_) | (refine wpList_st (by first | rfl | simp [Region.wanted, yielded]) 52 _ _ rfl _ rfl _ rfl _ hstE ?_))
 refine bodyPost_ret (v := .agg (exL x ⟨ph, pn.1, pn.2, pa, pd, pp⟩).toArray) (results_at Tryz.results28 rfl (run_ld (P := Tryz.prog) 52 (exL x ⟨ph, pn.1, pn.2, pa, pd, pp⟩) _ (by kernel_rfl) (by kernel_rfl) (w.heap.size + 1) 0 (Blk.ld HB3.out 0 _ (fun j v h => by rw [Nat.zero_add]; exact h)))) rfl ?_
 exact ⟨⟨ph, pn.1, pn.2, pa, pd, pp⟩, rfl, fun w'' k => by have h := HF3.out w'' (k.mono (Nat.le_of_lt (Nat.lt_of_le_of_lt (Nat.le_succ_of_le (Nat.le_succ _)) HN.out))); exact ⟨h.1.1.1.1.2, h.1.1.1.2, h.1.1.2, h.1.2, h.2⟩, HX3.out⟩
set_option maxHeartbeats 12800000 in
set_option maxRecDepth 100000 in
theorem eqExts_same (x : Ex) (m m2 : ExPl) (w : World) (hI : ExIn w x m) (hJ : ExIn w x m2) (hS : ExSm x 1048576) :
  Calls Tryz.prog 38 #[.agg (exL x m).toArray, .agg (exL x m2).toArray] w fun e w' => e = .returned (.bool true) ∧ Ext w w' := by
 obtain ⟨V, hV⟩ : ∃ V, (w.alloc (.cells (exL x m).toArray 52)).alloc (.cells (exL x m2).toArray 52) = V := ⟨_, rfl⟩
 obtain ⟨B0, B1, hE, -⟩ := box2 w (exL x m) (exL x m2) 52 52 (w1 := V) (by rw [← hV]; exact Ext.refl _)
 have HA := hide B0
 have HB := hide B1
 have HE := hide hE
 have HI := hide (hI.ext hE)
 have HJ := hide (hJ.ext hE)
 have HS := hide hS
 clear B0 B1 hE hI hJ hS
 have a0 := (HA.out 0 _ rfl).1
 have b0 := (HB.out 0 _ rfl).1
 have n0 : (x.ca != x.ca) = false := by simp
 have a1 := (HA.out 1 _ rfl).1
 have b1 := (HB.out 1 _ rfl).1
 have n1 : (x.path != x.path) = false := by simp
 have a2 := (HA.out 2 _ rfl).1
 have b2 := (HB.out 2 _ rfl).1
 have n2 : (x.usage != x.usage) = false := by simp
 go_enter Tryz.func38, Tryz.ntmps38
 have a3 := (HA.out 3 _ rfl).1
 have b3 := (HB.out 3 _ rfl).1
 go_wp2_with fail
 refine (eqStringS_same m.h.ad m.h.b m.h.off x.nh m.h.cap x.fh m2.h.ad m2.h.b m2.h.off m2.h.cap V HI.out.h HJ.out.h HS.out.h).mono ?_
 rintro e w3 ⟨rfl, hEW⟩
 replace HA := hide (Blk.ext HA.out hEW (Blk.lt HA.out (by simp [exL])))
 replace HB := hide (Blk.ext HB.out hEW (Blk.lt HB.out (by simp [exL])))
 replace HI := hide (HI.out.ext hEW)
 replace HJ := hide (HJ.out.ext hEW)
 replace HE := hide (Ext.trans HE.out hEW)
 clear hEW a3 b3
 clear a0 b0 n0
 clear a1 b1 n1
 clear a2 b2 n2
 have a4 := (HA.out 4 _ rfl).1
 have b4 := (HB.out 4 _ rfl).1
 go_wp2_with fail
 refine (eqIntSS_same m.n m2.n m.ni m2.ni x.nn x.ln x.fn w3 HI.out.n HJ.out.n HS.out.n HS.out.ns).mono ?_
 rintro e w4 ⟨rfl, hEW⟩
 replace HA := hide (Blk.ext HA.out hEW (Blk.lt HA.out (by simp [exL])))
 replace HB := hide (Blk.ext HB.out hEW (Blk.lt HB.out (by simp [exL])))
 replace HI := hide (HI.out.ext hEW)
 replace HJ := hide (HJ.out.ext hEW)
 replace HE := hide (Ext.trans HE.out hEW)
 clear hEW a4 b4
 have a5 := (HA.out 5 _ rfl).1
 have b5 := (HB.out 5 _ rfl).1
 go_wp2_with fail
 refine (eqStringS_same m.a.ad m.a.b m.a.off x.na m.a.cap x.fa m2.a.ad m2.a.b m2.a.off m2.a.cap w4 HI.out.a HJ.out.a HS.out.a).mono ?_
 rintro e w5 ⟨rfl, hEW⟩
 replace HA := hide (Blk.ext HA.out hEW (Blk.lt HA.out (by simp [exL])))
 replace HB := hide (Blk.ext HB.out hEW (Blk.lt HB.out (by simp [exL])))
 replace HI := hide (HI.out.ext hEW)
 replace HJ := hide (HJ.out.ext hEW)
 replace HE := hide (Ext.trans HE.out hEW)
 clear hEW a5 b5
 have a6 := (HA.out 6 _ rfl).1
 have b6 := (HB.out 6 _ rfl).1
 go_wp2_with fail
 refine (eqStringS_same m.d.ad m.d.b m.d.off x.nd m.d.cap x.fd m2.d.ad m2.d.b m2.d.off m2.d.cap w5 HI.out.d HJ.out.d HS.out.d).mono ?_
 rintro e w6 ⟨rfl, hEW⟩
 replace HA := hide (Blk.ext HA.out hEW (Blk.lt HA.out (by simp [exL])))
 replace HB := hide (Blk.ext HB.out hEW (Blk.lt HB.out (by simp [exL])))
 replace HI := hide (HI.out.ext hEW)
 replace HJ := hide (HJ.out.ext hEW)
 replace HE := hide (Ext.trans HE.out hEW)
 clear hEW a6 b6
 have a7 := (HA.out 7 _ rfl).1
 have b7 := (HB.out 7 _ rfl).1
 go_wp2_with fail
 refine (eqInts_same m.p m2.p x.np x.fp w6 HI.out.p HJ.out.p HS.out.p).mono ?_
 rintro e w7 ⟨rfl, hEW⟩
 replace HA := hide (Blk.ext HA.out hEW (Blk.lt HA.out (by simp [exL])))
 replace HB := hide (Blk.ext HB.out hEW (Blk.lt HB.out (by simp [exL])))
 replace HI := hide (HI.out.ext hEW)
 replace HJ := hide (HJ.out.ext hEW)
 replace HE := hide (Ext.trans HE.out hEW)
 clear hEW a7 b7
 go_wp2
 go_ret
 exact ⟨rfl, HE.out⟩
end Go.Proofs.YtfhiiakoilkbkaaGreatDoor
