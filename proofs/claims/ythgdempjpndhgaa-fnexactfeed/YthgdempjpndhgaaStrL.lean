/- Walks: the law's helpers over streams. -/
import Derived.Test.YthgdempjpndhgaaStrW
namespace Go.Proofs.Ythgdempjpndhgaa
set_option linter.unusedVariables false
set_option linter.unusedSimpArgs false
open Go.RowKit

theorem Blk.set {w : World} {C : Nat} {vs : List Value} (h : Blk w C vs) (i : Nat) (hi : i < vs.length) (v : Value) : Blk (w.setCell ⟨C, i, none⟩ v) C (vs.set i v) := fun k x hx => by
  rw [World.frozen?_setCell]
  by_cases e : i = k
  · subst e
    rw [List.getElem?_set_self hi] at hx
    cases hx
    have := h i _ (List.getElem?_eq_getElem hi)
    exact ⟨World.cell?_setCell_same _ _ _ this.1, this.2⟩
  · rw [List.getElem?_set_ne e] at hx
    exact ⟨(World.cell?_setCell_other _ _ _ _ (fun q => e (by have := congrArg Addr.off q; simp at this; omega))).trans (h k x hx).1, (h k x hx).2⟩

theorem Blk.set_other {w : World} {C D : Nat} {us : List Value} (h : Blk w D us) (hne : D ≠ C) (i : Nat) (v : Value) : Blk (w.setCell ⟨C, i, none⟩ v) D us := fun k x hx => by
  rw [World.frozen?_setCell]
  exact ⟨(World.cell?_setCell_other _ _ _ _ (fun q => hne (by have := congrArg Addr.block q; simp at this; omega))).trans (h k x hx).1, (h k x hx).2⟩

theorem touch_putL (C : Nat) : ∀ (vs : List Value) (i : Nat) (w0 w : World), Touch C w0 w → Touch C w0 (putL C i vs w)
  | [], _, _, _, h => h
  | v :: vs, i, w0, w, h => touch_putL C vs (i + 1) w0 _ (h.set i v)

theorem Ext.setCell {a w : World} (h : Ext a w) {C : Nat} (hC : a.heap.size ≤ C) (i : Nat) (v : Value) : Ext a (w.setCell ⟨C, i, none⟩ v) := Below.setCell (p := ⟨C, i, none⟩) h hC v

theorem szByteS_at (a : Option Addr) (n cap : Nat) (w : World) (hn : n ≤ 1048576) : Calls Try.prog 64 #[.slice a n cap, .int .i64 1048576] w fun e w' => e = .returned (.int .i64 (1048576 - n)) ∧ w' = w := by
  have h : ¬ (1048576 - (n : Int) < 0) := by omega
  go_enter Try.func64, Try.ntmps64
  go_wp2
  go_ret
  exact ⟨rfl, rfl⟩

theorem szByteS_long (a : Option Addr) (n cap : Nat) (w : World) (hn : ¬ n ≤ 1048576) (hm : n ≤ 9223372036854775807) : Calls Try.prog 64 #[.slice a n cap, .int .i64 1048576] w fun e w' => e = .returned (.int .i64 (-1)) ∧ w' = w := by
  have h : 1048576 - (n : Int) < 0 := by omega
  go_enter Try.func64, Try.ntmps64
  go_wp2
  go_ret
  exact ⟨rfl, rfl⟩

theorem szStream_at (h0 h1 h2 h3 h4 h5 h6 h7 : Int) (r : Option Addr) (n cap : Nat) (many : Int) (w : World) (hn : n ≤ 1048576) : Calls Try.prog 26 #[.agg #[.int .i64 h0, .int .i64 h1, .int .i64 h2, .int .i64 h3, .int .i64 h4, .int .i64 h5, .int .i64 h6, .int .i64 h7, .slice r n cap, .int .i64 many], .int .i64 1048576] w fun e w' => e = .returned (.int .i64 (1048576 - n)) ∧ Ext w w' := by
  have HB := hide (fun w => szByteS_at r n cap w hn)
  have h : ¬ (1048576 - (n : Int) < 0) := by omega
  go_enter Try.func26, Try.ntmps26
  go_wp2_with fail
  refine (HB.out _).mono ?_
  rintro e w' ⟨rfl, hw⟩
  obtain rfl := hw.symm
  go_wp2
  go_ret
  exact ⟨rfl, Ext.alloc _ _⟩

theorem szStream_long (h0 h1 h2 h3 h4 h5 h6 h7 : Int) (r : Option Addr) (n cap : Nat) (many : Int) (w : World) (hn : ¬ n ≤ 1048576) (hm : n ≤ 9223372036854775807) : Calls Try.prog 26 #[.agg #[.int .i64 h0, .int .i64 h1, .int .i64 h2, .int .i64 h3, .int .i64 h4, .int .i64 h5, .int .i64 h6, .int .i64 h7, .slice r n cap, .int .i64 many], .int .i64 1048576] w fun e w' => e = .returned (.int .i64 (-1)) ∧ Ext w w' := by
  have HB := hide (fun w => szByteS_long r n cap w hn hm)
  go_enter Try.func26, Try.ntmps26
  go_wp2_with fail
  refine (HB.out _).mono ?_
  rintro e w' ⟨rfl, hw⟩
  obtain rfl := hw.symm
  go_wp2
  go_ret
  exact ⟨rfl, Ext.alloc _ _⟩

/-- The call hands back that stream, its bytes in new memory. -/
def GivesStr (h0 h1 h2 h3 h4 h5 h6 h7 : Int) (n : Nat) (f : Nat → Int) (many : Int) (w : World) (e : Ending) (w' : World) : Prop :=
  ∃ g, e = .returned (.agg #[.int .i64 h0, .int .i64 h1, .int .i64 h2, .int .i64 h3, .int .i64 h4, .int .i64 h5, .int .i64 h6, .int .i64 h7, .slice (some ⟨g, 0, none⟩) n n, .int .i64 many]) ∧ BOwn w' (some ⟨g, 0, none⟩) g 0 n f ∧ w.heap.size ≤ g ∧ g < w'.heap.size ∧ Ext w w'

set_option maxHeartbeats 3200000 in
set_option maxRecDepth 100000 in
theorem toStream_any (h0 h1 h2 h3 h4 h5 h6 h7 : Int) (r : Option Addr) (b off n cap : Nat) (f : Nat → Int) (many : Int) (w : World) (hs : BSeg w r b off n f) (hn : n ≤ 1048576) :
    Calls Try.prog 28 #[.agg #[.int .i64 h0, .int .i64 h1, .int .i64 h2, .int .i64 h3, .int .i64 h4, .int .i64 h5, .int .i64 h6, .int .i64 h7, .slice r n cap, .int .i64 many]] w fun e w' => GivesStr h0 h1 h2 h3 h4 h5 h6 h7 n f many w e w' := by
  have HA : Hid (∀ w : World, Calls Try.prog 67 #[.agg #[.int .i64 h0, .int .i64 h1, .int .i64 h2, .int .i64 h3, .int .i64 h4, .int .i64 h5, .int .i64 h6, .int .i64 h7]] w fun e w' => e = .returned (.agg #[.int .i64 h0, .int .i64 h1, .int .i64 h2, .int .i64 h3, .int .i64 h4, .int .i64 h5, .int .i64 h6, .int .i64 h7]) ∧ Ext w w') := fun w => toIntA8_any (fun i => if i = 0 then h0 else if i = 1 then h1 else if i = 2 then h2 else if i = 3 then h3 else if i = 4 then h4 else if i = 5 then h5 else if i = 6 then h6 else h7) w
  go_enter Try.func28, Try.ntmps28
  go_wp2_with fail
  refine (HA.out _).mono ?_
  rintro e w1 ⟨rfl, hw1⟩
  obtain ⟨B0, B1, B2, hE, hz⟩ := box3 w [.int .i64 h0, .int .i64 h1, .int .i64 h2, .int .i64 h3, .int .i64 h4, .int .i64 h5, .int .i64 h6, .int .i64 h7, .slice r n cap, .int .i64 many] [.int .i64 0, .int .i64 0, .int .i64 0, .int .i64 0, .int .i64 0, .int .i64 0, .int .i64 0, .int .i64 0, .slice none 0 0, .int .i64 0] [.int .i64 0, .int .i64 0, .int .i64 0, .int .i64 0, .int .i64 0, .int .i64 0, .int .i64 0, .int .i64 0, .slice none 0 0, .int .i64 0] 37 39 39 hw1
  clear hw1 HA
  have T2 : Hid (Blk ((((((((w1.setCell ⟨w.heap.size + 1 + 1, 0, none⟩ (.int .i64 h0)).setCell ⟨w.heap.size + 1 + 1, 1, none⟩ (.int .i64 h1)).setCell ⟨w.heap.size + 1 + 1, 2, none⟩ (.int .i64 h2)).setCell ⟨w.heap.size + 1 + 1, 3, none⟩ (.int .i64 h3)).setCell ⟨w.heap.size + 1 + 1, 4, none⟩ (.int .i64 h4)).setCell ⟨w.heap.size + 1 + 1, 5, none⟩ (.int .i64 h5)).setCell ⟨w.heap.size + 1 + 1, 6, none⟩ (.int .i64 h6)).setCell ⟨w.heap.size + 1 + 1, 7, none⟩ (.int .i64 h7)) (w.heap.size + 1 + 1) [.int .i64 h0, .int .i64 h1, .int .i64 h2, .int .i64 h3, .int .i64 h4, .int .i64 h5, .int .i64 h6, .int .i64 h7, .slice none 0 0, .int .i64 0]) := ((((((((B2.set 0 (by simp) (.int .i64 h0)).set 1 (by simp) (.int .i64 h1)).set 2 (by simp) (.int .i64 h2)).set 3 (by simp) (.int .i64 h3)).set 4 (by simp) (.int .i64 h4)).set 5 (by simp) (.int .i64 h5)).set 6 (by simp) (.int .i64 h6)).set 7 (by simp) (.int .i64 h7))
  have T0 : Hid (Blk ((((((((w1.setCell ⟨w.heap.size + 1 + 1, 0, none⟩ (.int .i64 h0)).setCell ⟨w.heap.size + 1 + 1, 1, none⟩ (.int .i64 h1)).setCell ⟨w.heap.size + 1 + 1, 2, none⟩ (.int .i64 h2)).setCell ⟨w.heap.size + 1 + 1, 3, none⟩ (.int .i64 h3)).setCell ⟨w.heap.size + 1 + 1, 4, none⟩ (.int .i64 h4)).setCell ⟨w.heap.size + 1 + 1, 5, none⟩ (.int .i64 h5)).setCell ⟨w.heap.size + 1 + 1, 6, none⟩ (.int .i64 h6)).setCell ⟨w.heap.size + 1 + 1, 7, none⟩ (.int .i64 h7)) w.heap.size [.int .i64 h0, .int .i64 h1, .int .i64 h2, .int .i64 h3, .int .i64 h4, .int .i64 h5, .int .i64 h6, .int .i64 h7, .slice r n cap, .int .i64 many]) := ((((((((B0.set_other (by omega) 0 (.int .i64 h0)).set_other (by omega) 1 (.int .i64 h1)).set_other (by omega) 2 (.int .i64 h2)).set_other (by omega) 3 (.int .i64 h3)).set_other (by omega) 4 (.int .i64 h4)).set_other (by omega) 5 (.int .i64 h5)).set_other (by omega) 6 (.int .i64 h6)).set_other (by omega) 7 (.int .i64 h7))
  have T1 : Hid (Blk ((((((((w1.setCell ⟨w.heap.size + 1 + 1, 0, none⟩ (.int .i64 h0)).setCell ⟨w.heap.size + 1 + 1, 1, none⟩ (.int .i64 h1)).setCell ⟨w.heap.size + 1 + 1, 2, none⟩ (.int .i64 h2)).setCell ⟨w.heap.size + 1 + 1, 3, none⟩ (.int .i64 h3)).setCell ⟨w.heap.size + 1 + 1, 4, none⟩ (.int .i64 h4)).setCell ⟨w.heap.size + 1 + 1, 5, none⟩ (.int .i64 h5)).setCell ⟨w.heap.size + 1 + 1, 6, none⟩ (.int .i64 h6)).setCell ⟨w.heap.size + 1 + 1, 7, none⟩ (.int .i64 h7)) (w.heap.size + 1) [.int .i64 0, .int .i64 0, .int .i64 0, .int .i64 0, .int .i64 0, .int .i64 0, .int .i64 0, .int .i64 0, .slice none 0 0, .int .i64 0]) := ((((((((B1.set_other (by omega) 0 (.int .i64 h0)).set_other (by omega) 1 (.int .i64 h1)).set_other (by omega) 2 (.int .i64 h2)).set_other (by omega) 3 (.int .i64 h3)).set_other (by omega) 4 (.int .i64 h4)).set_other (by omega) 5 (.int .i64 h5)).set_other (by omega) 6 (.int .i64 h6)).set_other (by omega) 7 (.int .i64 h7))
  have hE2 : Hid (Ext w ((((((((w1.setCell ⟨w.heap.size + 1 + 1, 0, none⟩ (.int .i64 h0)).setCell ⟨w.heap.size + 1 + 1, 1, none⟩ (.int .i64 h1)).setCell ⟨w.heap.size + 1 + 1, 2, none⟩ (.int .i64 h2)).setCell ⟨w.heap.size + 1 + 1, 3, none⟩ (.int .i64 h3)).setCell ⟨w.heap.size + 1 + 1, 4, none⟩ (.int .i64 h4)).setCell ⟨w.heap.size + 1 + 1, 5, none⟩ (.int .i64 h5)).setCell ⟨w.heap.size + 1 + 1, 6, none⟩ (.int .i64 h6)).setCell ⟨w.heap.size + 1 + 1, 7, none⟩ (.int .i64 h7))) := ((((((((hE.setCell (by omega) 0 (.int .i64 h0)).setCell (by omega) 1 (.int .i64 h1)).setCell (by omega) 2 (.int .i64 h2)).setCell (by omega) 3 (.int .i64 h3)).setCell (by omega) 4 (.int .i64 h4)).setCell (by omega) 5 (.int .i64 h5)).setCell (by omega) 6 (.int .i64 h6)).setCell (by omega) 7 (.int .i64 h7))
  have hz2 : w.heap.size + 3 ≤ ((((((((w1.setCell ⟨w.heap.size + 1 + 1, 0, none⟩ (.int .i64 h0)).setCell ⟨w.heap.size + 1 + 1, 1, none⟩ (.int .i64 h1)).setCell ⟨w.heap.size + 1 + 1, 2, none⟩ (.int .i64 h2)).setCell ⟨w.heap.size + 1 + 1, 3, none⟩ (.int .i64 h3)).setCell ⟨w.heap.size + 1 + 1, 4, none⟩ (.int .i64 h4)).setCell ⟨w.heap.size + 1 + 1, 5, none⟩ (.int .i64 h5)).setCell ⟨w.heap.size + 1 + 1, 6, none⟩ (.int .i64 h6)).setCell ⟨w.heap.size + 1 + 1, 7, none⟩ (.int .i64 h7)).heap.size := by simp [World.setCell]; omega
  have k0 := (B0 0 _ rfl).1
  have k1 := (B0 1 _ rfl).1
  have k2 := (B0 2 _ rfl).1
  have k3 := (B0 3 _ rfl).1
  have k4 := (B0 4 _ rfl).1
  have k5 := (B0 5 _ rfl).1
  have k6 := (B0 6 _ rfl).1
  have k7 := (B0 7 _ rfl).1
  have k8 := (B0 8 _ rfl).1
  have k9 := (B0 9 _ rfl).1
  have d0 := (B2 0 _ rfl).1
  have d1 := (B2 1 _ rfl).1
  have d2 := (B2 2 _ rfl).1
  have d3 := (B2 3 _ rfl).1
  have d4 := (B2 4 _ rfl).1
  have d5 := (B2 5 _ rfl).1
  have d6 := (B2 6 _ rfl).1
  have d7 := (B2 7 _ rfl).1
  have d8 := (B2 8 _ rfl).1
  have d9 := (B2 9 _ rfl).1
  have z0 := (B2 0 _ rfl).2
  have z1 := (B2 1 _ rfl).2
  have z2 := (B2 2 _ rfl).2
  have z3 := (B2 3 _ rfl).2
  have z4 := (B2 4 _ rfl).2
  have z5 := (B2 5 _ rfl).2
  have z6 := (B2 6 _ rfl).2
  have z7 := (B2 7 _ rfl).2
  have z8 := (B2 8 _ rfl).2
  have z9 := (B2 9 _ rfl).2
  clear B0 B1 B2
  go_wp2_with fail
  clear k0 k1 k2 k3 k4 k5 k6 k7 k8 k9 d0 d1 d2 d3 d4 d5 d6 d7 d8 d9 z0 z1 z2 z3 z4 z5 z6 z7 z8 z9 hE hz
  generalize ((((((((w1.setCell ⟨w.heap.size + 1 + 1, 0, none⟩ (.int .i64 h0)).setCell ⟨w.heap.size + 1 + 1, 1, none⟩ (.int .i64 h1)).setCell ⟨w.heap.size + 1 + 1, 2, none⟩ (.int .i64 h2)).setCell ⟨w.heap.size + 1 + 1, 3, none⟩ (.int .i64 h3)).setCell ⟨w.heap.size + 1 + 1, 4, none⟩ (.int .i64 h4)).setCell ⟨w.heap.size + 1 + 1, 5, none⟩ (.int .i64 h5)).setCell ⟨w.heap.size + 1 + 1, 6, none⟩ (.int .i64 h6)).setCell ⟨w.heap.size + 1 + 1, 7, none⟩ (.int .i64 h7)) = W2 at *
  refine (toByteS_any r b off n cap f _ (hs.of_all hE2.out) hn).mono ?_
  rintro e w3 ⟨rfl, hz3, hr3, hw3⟩
  replace hw3 : Ext W2 w3 := hw3
  have R3 := hide (BOwn.of_row hr3 (Nat.le_refl _))
  have U2 := (T2.out.ext hw3 (by omega)).set 8 (by simp) (.slice (some ⟨W2.heap.size, 0, none⟩) n n)
  have U3 := hide (U2.set 9 (by simp) (.int .i64 many))
  have hE3 := hide (((hE2.out.trans hw3).setCell (C := w.heap.size + 1 + 1) (by omega) 8 (.slice (some ⟨W2.heap.size, 0, none⟩) n n)).setCell (C := w.heap.size + 1 + 1) (by omega) 9 (.int .i64 many))
  have P2 := T2.out.ext hw3 (by omega)
  have P0 := T0.out.ext hw3 (by omega)
  have P1 := hide (((T1.out.ext hw3 (by omega)).set_other (C := w.heap.size + 1 + 1) (by omega) 8 (.slice (some ⟨W2.heap.size, 0, none⟩) n n)).set_other (C := w.heap.size + 1 + 1) (by omega) 9 (.int .i64 many))
  have R4 : Hid (BOwn ((w3.setCell ⟨w.heap.size + 1 + 1, 8, none⟩ (.slice (some ⟨W2.heap.size, 0, none⟩) n n)).setCell ⟨w.heap.size + 1 + 1, 9, none⟩ (.int .i64 many)) (some ⟨W2.heap.size, 0, none⟩) W2.heap.size 0 n f) := ⟨⟨fun _ => rfl, fun i hi => by
    rw [World.cell?_setCell_other _ _ _ _ (fun q => by have := congrArg Addr.block q; simp at this; omega), World.cell?_setCell_other _ _ _ _ (fun q => by have := congrArg Addr.block q; simp at this; omega)]
    exact R3.out.cell i hi⟩, fun i hi => by rw [World.frozen?_setCell, World.frozen?_setCell]; exact R3.out.free i hi⟩
  have hzz : W2.heap.size < ((w3.setCell ⟨w.heap.size + 1 + 1, 8, none⟩ (.slice (some ⟨W2.heap.size, 0, none⟩) n n)).setCell ⟨w.heap.size + 1 + 1, 9, none⟩ (.int .i64 many)).heap.size := by simp [World.setCell]; omega
  have k0 := (P0 0 _ rfl).1
  have k1 := (P0 1 _ rfl).1
  have k2 := (P0 2 _ rfl).1
  have k3 := (P0 3 _ rfl).1
  have k4 := (P0 4 _ rfl).1
  have k5 := (P0 5 _ rfl).1
  have k6 := (P0 6 _ rfl).1
  have k7 := (P0 7 _ rfl).1
  have k8 := (P0 8 _ rfl).1
  have k9 := (P0 9 _ rfl).1
  have d0 := (P2 0 _ rfl).1
  have d1 := (P2 1 _ rfl).1
  have d2 := (P2 2 _ rfl).1
  have d3 := (P2 3 _ rfl).1
  have d4 := (P2 4 _ rfl).1
  have d5 := (P2 5 _ rfl).1
  have d6 := (P2 6 _ rfl).1
  have d7 := (P2 7 _ rfl).1
  have d8 := (P2 8 _ rfl).1
  have d9 := (P2 9 _ rfl).1
  have z0 := (P2 0 _ rfl).2
  have z1 := (P2 1 _ rfl).2
  have z2 := (P2 2 _ rfl).2
  have z3 := (P2 3 _ rfl).2
  have z4 := (P2 4 _ rfl).2
  have z5 := (P2 5 _ rfl).2
  have z6 := (P2 6 _ rfl).2
  have z7 := (P2 7 _ rfl).2
  have z8 := (P2 8 _ rfl).2
  have z9 := (P2 9 _ rfl).2
  have ne1 : ¬ w.heap.size + 1 + 1 = w.heap.size + 1 := by omega
  have ne2 : ¬ w.heap.size + 1 = w.heap.size + 1 + 1 := by omega
  have Q1 := P1.out
  have Q2 : Blk ((w3.setCell ⟨w.heap.size + 1 + 1, 8, none⟩ (.slice (some ⟨W2.heap.size, 0, none⟩) n n)).setCell ⟨w.heap.size + 1 + 1, 9, none⟩ (.int .i64 many)) (w.heap.size + 1 + 1) [.int .i64 h0, .int .i64 h1, .int .i64 h2, .int .i64 h3, .int .i64 h4, .int .i64 h5, .int .i64 h6, .int .i64 h7, .slice (some ⟨W2.heap.size, 0, none⟩) n n, .int .i64 many] := U3.out
  have e0 := (Q1 0 _ rfl).1
  have e1 := (Q1 1 _ rfl).1
  have e2 := (Q1 2 _ rfl).1
  have e3 := (Q1 3 _ rfl).1
  have e4 := (Q1 4 _ rfl).1
  have e5 := (Q1 5 _ rfl).1
  have e6 := (Q1 6 _ rfl).1
  have e7 := (Q1 7 _ rfl).1
  have e8 := (Q1 8 _ rfl).1
  have e9 := (Q1 9 _ rfl).1
  have y0 := (Q1 0 _ rfl).2
  have y1 := (Q1 1 _ rfl).2
  have y2 := (Q1 2 _ rfl).2
  have y3 := (Q1 3 _ rfl).2
  have y4 := (Q1 4 _ rfl).2
  have y5 := (Q1 5 _ rfl).2
  have y6 := (Q1 6 _ rfl).2
  have y7 := (Q1 7 _ rfl).2
  have y8 := (Q1 8 _ rfl).2
  have y9 := (Q1 9 _ rfl).2
  have f0 := (Q2 0 _ rfl).1
  have f1 := (Q2 1 _ rfl).1
  have f2 := (Q2 2 _ rfl).1
  have f3 := (Q2 3 _ rfl).1
  have f4 := (Q2 4 _ rfl).1
  have f5 := (Q2 5 _ rfl).1
  have f6 := (Q2 6 _ rfl).1
  have f7 := (Q2 7 _ rfl).1
  have f8 := (Q2 8 _ rfl).1
  have f9 := (Q2 9 _ rfl).1
  clear P0 P2 Q1 Q2 U2 T0 T1 T2 hE2 hr3
  go_wp2
  clear k0 k1 k2 k3 k4 k5 k6 k7 k8 k9 d0 d1 d2 d3 d4 d5 d6 d7 d8 d9 z0 z1 z2 z3 z4 z5 z6 z7 z8 z9 e0 e1 e2 e3 e4 e5 e6 e7 e8 e9 y0 y1 y2 y3 y4 y5 y6 y7 y8 y9 f0 f1 f2 f3 f4 f5 f6 f7 f8 f9
  obtain ⟨W4, hW4⟩ : ∃ W4, (w3.setCell ⟨w.heap.size + 1 + 1, 8, none⟩ (.slice (some ⟨W2.heap.size, 0, none⟩) n n)).setCell ⟨w.heap.size + 1 + 1, 9, none⟩ (.int .i64 many) = W4 := ⟨_, rfl⟩
  rw [hW4] at hE3 R4 hzz P1
  simp only [hW4]
  clear hW4 U3 R3 ne1 ne2
  obtain ⟨W, hW⟩ : ∃ W, putL (w.heap.size + 1) 0 [.int .i64 h0, .int .i64 h1, .int .i64 h2, .int .i64 h3, .int .i64 h4, .int .i64 h5, .int .i64 h6, .int .i64 h7, .slice (some ⟨W2.heap.size, 0, none⟩) n n, .int .i64 many] W4 = W := ⟨_, rfl⟩
  have BW := P1.out.put [.int .i64 h0, .int .i64 h1, .int .i64 h2, .int .i64 h3, .int .i64 h4, .int .i64 h5, .int .i64 h6, .int .i64 h7, .slice (some ⟨W2.heap.size, 0, none⟩) n n, .int .i64 many] rfl
  have R5 := R4.out.touch (touch_putL (w.heap.size + 1) [.int .i64 h0, .int .i64 h1, .int .i64 h2, .int .i64 h3, .int .i64 h4, .int .i64 h5, .int .i64 h6, .int .i64 h7, .slice (some ⟨W2.heap.size, 0, none⟩) n n, .int .i64 many] 0 W4 W4 (Touch.refl _ _)) (fun _ => by omega)
  have hF : Ext w (putL (w.heap.size + 1) 0 [.int .i64 h0, .int .i64 h1, .int .i64 h2, .int .i64 h3, .int .i64 h4, .int .i64 h5, .int .i64 h6, .int .i64 h7, .slice (some ⟨W2.heap.size, 0, none⟩) n n, .int .i64 many] W4) := hE3.out.putL (by omega) _
  have hzw : W2.heap.size < (putL (w.heap.size + 1) 0 [.int .i64 h0, .int .i64 h1, .int .i64 h2, .int .i64 h3, .int .i64 h4, .int .i64 h5, .int .i64 h6, .int .i64 h7, .slice (some ⟨W2.heap.size, 0, none⟩) n n, .int .i64 many] W4).heap.size := by rw [size_putL]; exact hzz
  rw [hW] at BW R5 hF hzw
  have HG : Hid (GivesStr h0 h1 h2 h3 h4 h5 h6 h7 n f many w (.returned (.agg #[.int .i64 h0, .int .i64 h1, .int .i64 h2, .int .i64 h3, .int .i64 h4, .int .i64 h5, .int .i64 h6, .int .i64 h7, .slice (some ⟨W2.heap.size, 0, none⟩) n n, .int .i64 many])) W) := ⟨_, rfl, R5, by omega, hzw, hF⟩
  simp only [putL, Nat.zero_add, Nat.reduceAdd] at hW
  simp only [hW]
  have q0 := (BW 0 _ rfl).1
  have q1 := (BW 1 _ rfl).1
  have q2 := (BW 2 _ rfl).1
  have q3 := (BW 3 _ rfl).1
  have q4 := (BW 4 _ rfl).1
  have q5 := (BW 5 _ rfl).1
  have q6 := (BW 6 _ rfl).1
  have q7 := (BW 7 _ rfl).1
  have q8 := (BW 8 _ rfl).1
  have q9 := (BW 9 _ rfl).1
  refine bodyPost_ret (v := .agg #[.int .i64 h0, .int .i64 h1, .int .i64 h2, .int .i64 h3, .int .i64 h4, .int .i64 h5, .int .i64 h6, .int .i64 h7, .slice (some ⟨W2.heap.size, 0, none⟩) n n, .int .i64 many]) (by simp [results, Try.results28, go_sem, q0, q1, q2, q3, q4, q5, q6, q7, q8, q9]) rfl HG.out

set_option maxHeartbeats 1600000 in
set_option maxRecDepth 100000 in
theorem eqIntA8_same (h : Nat → Int) (w : World) : Calls Try.prog 73 #[.agg #[.int .i64 (h 0), .int .i64 (h 1), .int .i64 (h 2), .int .i64 (h 3), .int .i64 (h 4), .int .i64 (h 5), .int .i64 (h 6), .int .i64 (h 7)], .agg #[.int .i64 (h 0), .int .i64 (h 1), .int .i64 (h 2), .int .i64 (h 3), .int .i64 (h 4), .int .i64 (h 5), .int .i64 (h 6), .int .i64 (h 7)]] w fun e w' => e = .returned (.bool true) ∧ Ext w w' := by
  go_enter Try.func73, Try.ntmps73
  go_wp2
  obtain ⟨V, hV⟩ : ∃ V, (w.alloc (.cells #[.int .i64 (h 0), .int .i64 (h 1), .int .i64 (h 2), .int .i64 (h 3), .int .i64 (h 4), .int .i64 (h 5), .int .i64 (h 6), .int .i64 (h 7)] 35)).alloc (.cells #[.int .i64 (h 0), .int .i64 (h 1), .int .i64 (h 2), .int .i64 (h 3), .int .i64 (h 4), .int .i64 (h 5), .int .i64 (h 6), .int .i64 (h 7)] 35) = V := ⟨_, rfl⟩
  obtain ⟨B1, B2, hE, hz⟩ := box2 w [.int .i64 (h 0), .int .i64 (h 1), .int .i64 (h 2), .int .i64 (h 3), .int .i64 (h 4), .int .i64 (h 5), .int .i64 (h 6), .int .i64 (h 7)] [.int .i64 (h 0), .int .i64 (h 1), .int .i64 (h 2), .int .i64 (h 3), .int .i64 (h 4), .int .i64 (h 5), .int .i64 (h 6), .int .i64 (h 7)] 35 35 (hV ▸ Ext.refl _ : Ext ((w.alloc (.cells #[.int .i64 (h 0), .int .i64 (h 1), .int .i64 (h 2), .int .i64 (h 3), .int .i64 (h 4), .int .i64 (h 5), .int .i64 (h 6), .int .i64 (h 7)] 35)).alloc (.cells #[.int .i64 (h 0), .int .i64 (h 1), .int .i64 (h 2), .int .i64 (h 3), .int .i64 (h 4), .int .i64 (h 5), .int .i64 (h 6), .int .i64 (h 7)] 35)) V)
  simp only [hV]
  clear hV
  have hc : ∀ i, i < 8 → V.cell? ⟨w.heap.size, i, none⟩ = some (.int .i64 (h i)) := fun i hi => by
    have : i = 0 ∨ i = 1 ∨ i = 2 ∨ i = 3 ∨ i = 4 ∨ i = 5 ∨ i = 6 ∨ i = 7 := by omega
    rcases this with rfl | rfl | rfl | rfl | rfl | rfl | rfl | rfl <;> exact (B1 _ _ rfl).1
  have hd : ∀ i, i < 8 → V.cell? ⟨w.heap.size + 1, i, none⟩ = some (.int .i64 (h i)) := fun i hi => by
    have : i = 0 ∨ i = 1 ∨ i = 2 ∨ i = 3 ∨ i = 4 ∨ i = 5 ∨ i = 6 ∨ i = 7 := by omega
    rcases this with rfl | rfl | rfl | rfl | rfl | rfl | rfl | rfl <;> exact (B2 _ _ rfl).1
  have Hc := hide hc
  have Hd := hide hd
  clear hc hd B1 B2
  go_loopw [5] (fun s wr => ∃ (K q : Nat), K ≤ 8 ∧ s = .int .i64 K ∧ wr = V.drewN q) (fun s _ => 8 - (intOf s).toNat)
  case atStart => exact ⟨0, 0, by omega, rfl, rfl⟩
  case round =>
    obtain ⟨K, q, hK8, rfl, rfl⟩ := hrel
    by_cases hlt : K < 8
    · have hcl := Hc.out K hlt
      have hdl := Hd.out K hlt
      have hk8 : (K : Int) < 8 := by omega
      generalize h K = x at *
      go_wp2
      go_quiet (fail)
      go_wp2
      go_roundw
      case rel => exact ⟨K + 1, _, by omega, by go_num, rfl⟩
      case measure => simp [intOf]; omega
    · have hk8 : ¬ (K : Int) < 8 := by omega
      go_wp2
      go_ret
      exact ⟨rfl, below_drewN hE _⟩

set_option maxHeartbeats 1600000 in
set_option maxRecDepth 100000 in
theorem eqStream_same (h0 h1 h2 h3 h4 h5 h6 h7 : Int) (g g2 n : Nat) (f : Nat → Int) (many : Int) (w : World) (hs : BSeg w (some ⟨g, 0, none⟩) g 0 n f) (hs2 : BSeg w (some ⟨g2, 0, none⟩) g2 0 n f) (hn : n ≤ 1048576) :
    Calls Try.prog 30 #[.agg #[.int .i64 h0, .int .i64 h1, .int .i64 h2, .int .i64 h3, .int .i64 h4, .int .i64 h5, .int .i64 h6, .int .i64 h7, .slice (some ⟨g, 0, none⟩) n n, .int .i64 many], .agg #[.int .i64 h0, .int .i64 h1, .int .i64 h2, .int .i64 h3, .int .i64 h4, .int .i64 h5, .int .i64 h6, .int .i64 h7, .slice (some ⟨g2, 0, none⟩) n n, .int .i64 many]] w fun e w' => e = .returned (.bool true) ∧ Ext w w' := by
  have HA : Hid (∀ w : World, Calls Try.prog 73 #[.agg #[.int .i64 h0, .int .i64 h1, .int .i64 h2, .int .i64 h3, .int .i64 h4, .int .i64 h5, .int .i64 h6, .int .i64 h7], .agg #[.int .i64 h0, .int .i64 h1, .int .i64 h2, .int .i64 h3, .int .i64 h4, .int .i64 h5, .int .i64 h6, .int .i64 h7]] w fun e w' => e = .returned (.bool true) ∧ Ext w w') := fun w => eqIntA8_same (fun i => if i = 0 then h0 else if i = 1 then h1 else if i = 2 then h2 else if i = 3 then h3 else if i = 4 then h4 else if i = 5 then h5 else if i = 6 then h6 else h7) w
  go_enter Try.func30, Try.ntmps30
  go_wp2_with fail
  refine (HA.out _).mono ?_
  rintro e w1 ⟨rfl, hw1⟩
  obtain ⟨B0, B1, hE, hz⟩ := box2 w [.int .i64 h0, .int .i64 h1, .int .i64 h2, .int .i64 h3, .int .i64 h4, .int .i64 h5, .int .i64 h6, .int .i64 h7, .slice (some ⟨g, 0, none⟩) n n, .int .i64 many] [.int .i64 h0, .int .i64 h1, .int .i64 h2, .int .i64 h3, .int .i64 h4, .int .i64 h5, .int .i64 h6, .int .i64 h7, .slice (some ⟨g2, 0, none⟩) n n, .int .i64 many] 39 39 hw1
  clear hw1 HA
  have k0 := (B0 0 _ rfl).1
  have k1 := (B0 1 _ rfl).1
  have k2 := (B0 2 _ rfl).1
  have k3 := (B0 3 _ rfl).1
  have k4 := (B0 4 _ rfl).1
  have k5 := (B0 5 _ rfl).1
  have k6 := (B0 6 _ rfl).1
  have k7 := (B0 7 _ rfl).1
  have k8 := (B0 8 _ rfl).1
  have k9 := (B0 9 _ rfl).1
  have d0 := (B1 0 _ rfl).1
  have d1 := (B1 1 _ rfl).1
  have d2 := (B1 2 _ rfl).1
  have d3 := (B1 3 _ rfl).1
  have d4 := (B1 4 _ rfl).1
  have d5 := (B1 5 _ rfl).1
  have d6 := (B1 6 _ rfl).1
  have d7 := (B1 7 _ rfl).1
  have d8 := (B1 8 _ rfl).1
  have d9 := (B1 9 _ rfl).1
  go_wp2_with fail
  clear k0 k1 k2 k3 k4 k5 k6 k7 k8 k9 d0 d1 d2 d3 d4 d5 d6 d7 d8 d9
  refine (eqByteS_any _ g 0 n _ f _ g2 0 n _ f _ (hs.of_all hE) (hs2.of_all hE) hn).mono ?_
  rintro e w2 ⟨rfl, q, rfl⟩
  rw [alike_refl]
  have D : Ext w1 (w1.drewN q) := below_drewN (Below.refl _ _) q
  have C0 := B0.ext D (by omega)
  have C1 := B1.ext D (by omega)
  generalize w1.drewN q = w2 at *
  have k0 := (C0 0 _ rfl).1
  have k1 := (C0 1 _ rfl).1
  have k2 := (C0 2 _ rfl).1
  have k3 := (C0 3 _ rfl).1
  have k4 := (C0 4 _ rfl).1
  have k5 := (C0 5 _ rfl).1
  have k6 := (C0 6 _ rfl).1
  have k7 := (C0 7 _ rfl).1
  have k8 := (C0 8 _ rfl).1
  have k9 := (C0 9 _ rfl).1
  have d0 := (C1 0 _ rfl).1
  have d1 := (C1 1 _ rfl).1
  have d2 := (C1 2 _ rfl).1
  have d3 := (C1 3 _ rfl).1
  have d4 := (C1 4 _ rfl).1
  have d5 := (C1 5 _ rfl).1
  have d6 := (C1 6 _ rfl).1
  have d7 := (C1 7 _ rfl).1
  have d8 := (C1 8 _ rfl).1
  have d9 := (C1 9 _ rfl).1
  have hm : (many != many) = false := by simp
  go_wp2
  go_ret
  exact ⟨rfl, hE.trans D⟩

end Go.Proofs.Ythgdempjpndhgaa
