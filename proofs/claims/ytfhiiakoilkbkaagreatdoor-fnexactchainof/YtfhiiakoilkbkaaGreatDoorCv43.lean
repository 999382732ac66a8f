/- Walks: the program's allOk over lists whose elements are one cell each (written by mkaok.py). -/
import Derived.Handy
import Derived.Laws.EntriesVeiled
import Derived.Test.YtfhiiakoilkbkaaGreatDoorCv04
namespace Go.Proofs.YtfhiiakoilkbkaaGreatDoor
set_option linter.unusedVariables false
set_option linter.unusedSimpArgs false
set_option maxRecDepth 100000
open Go.RowKit
structure VSeg (w : World) (a : Option Addr) (b off n : Nat) (v : Nat → Value) : Prop where
 at' : 0 < n → a = some ⟨b, off, none⟩
 cell : ∀ i, i < n → w.cell? ⟨b, off + i, none⟩ = some (v i)
theorem VSeg.lt {w : World} {a : Option Addr} {b off n : Nat} {v : Nat → Value} (h : VSeg w a b off n v) (hn : 0 < n) : b < w.heap.size := World.block_lt_of_cell? _ _ (h.cell 0 hn)
theorem VSeg.of_all {w w' : World} {a : Option Addr} {b off n : Nat} {v : Nat → Value} (h : VSeg w a b off n v) (e : Ext w w') : VSeg w' a b off n v :=
 ⟨h.at', fun i hi => (Below.cell e (p := ⟨b, off + i, none⟩) (h.lt (by omega))).trans (h.cell i hi)⟩
theorem SSeg.v {w : World} {a : Option Addr} {b off n : Nat} {f : Nat → ByteArray} (h : SSeg w a b off n f) : VSeg w a b off n (fun i => .string (f i)) := ⟨h.at', h.cell⟩
theorem Seg.v {w : World} {a : Option Addr} {b off n : Nat} {f : Nat → Int} (h : Seg w a b off n f) : VSeg w a b off n (fun i => .int .i64 (f i)) := ⟨h.at', h.cell⟩
theorem NSeg.v {w : World} {p : Plc} {q : Nat → Plc} {n : Nat} {ln : Nat → Nat} {f : Nat → Nat → Int} (h : NSeg w p q n ln f) : VSeg w p.ad p.b p.off n (fun i => .slice (q i).ad (ln i) (q i).cap) := ⟨h.at', h.cell⟩
def IdxQ (R : Bool) (e : Ending) : Prop := ∃ z : Int, e = .returned (.int .i64 z) ∧ decide (0 ≤ z) = R
set_option maxHeartbeats 1600000 in
theorem idxS_any (F : Nat) (c : Value) (hF : ∀ (args : Array Value) (w : World), (callFunc F args).run Tryz.prog w = .ok (.enter F args) w) (p : Nat → Bool) (a : Option Addr) (b off n cap : Nat) (v : Nat → Value) (w : World) (hs : VSeg w a b off n v) (hn : n ≤ 1048576)
  (HC : Hid (∀ i, i < n → ∀ W, Ext w W → Calls Tryz.prog F #[v i, c] W fun e w' => e = .returned (.bool (p i)) ∧ Ext W w')) :
  Calls Tryz.prog 150 #[.slice a n cap, .func (.func F) #[] #[c]] w fun e w' => IdxQ (anyB p n) e ∧ Ext w w' := by
 have Hs := hide hs
 obtain ⟨R, hR⟩ : ∃ R, R = anyB p n := ⟨_, rfl⟩
 rw [← hR]
 have HR := hide hR
 clear hs hR
 go_enter Tryz.func150, Tryz.ntmps150
 go_wp2
 go_loopw [8] (fun i wr => ∃ k : Nat, k ≤ n ∧ i = .int .i64 (k : Int) ∧ (∀ j, j < k → p j = false) ∧ Ext w wr) (fun i _ => n - (intOf i).toNat)
 case atStart => exact ⟨0, Nat.zero_le _, rfl, fun j hj => absurd hj (Nat.not_lt_zero _), Ext.refl _⟩
 case round =>
  obtain ⟨k, hk, rfl, hd, hE⟩ := hrel
  have HD := hide hd
  have HE := hide hE
  by_cases hlt : k < n
  ·obtain rfl := Hs.out.at' (by omega)
   have c1 := (Hs.out.of_all hE).cell k hlt
   have hkn : (k : Int) < (n : Int) := by omega
   have HX := hide (HC.out k hlt _ hE)
   obtain ⟨q, hq⟩ : ∃ q, p k = q := ⟨_, rfl⟩
   rw [hq] at HX
   have Hq := hide hq
   clear hd hE hq
   go_wp2_with fail
   refine HX.out.mono ?_
   rintro e w1 ⟨rfl, hE1⟩
   have HE1 := hide hE1
   clear hE1
   cases q
   ·go_wp2
    go_roundw
    case rel => exact ⟨k + 1, by omega, by go_num, fun j hj => by
           by_cases e : j = k
           ·subst e; exact Hq.out
           ·exact HD.out j (by omega), Ext.trans HE.out HE1.out⟩
    case measure => simp [intOf]; omega
   ·go_wp2
    go_ret
    exact ⟨⟨_, rfl, by rw [HR.out, anyB_yes hlt Hq.out]; exact decide_eq_true (Int.natCast_nonneg _)⟩, Ext.trans HE.out HE1.out⟩
  ·obtain rfl : k = n := by omega
   clear hd hE
   go_wp2
   go_ret
   exact ⟨⟨_, rfl, by rw [HR.out, anyB_no HD.out]; rfl⟩, HE.out⟩
set_option maxHeartbeats 800000 in
theorem conS_any (F : Nat) (c : Value) (hF : ∀ (args : Array Value) (w : World), (callFunc F args).run Tryz.prog w = .ok (.enter F args) w) (p : Nat → Bool) (a : Option Addr) (b off n cap : Nat) (v : Nat → Value) (w : World) (hs : VSeg w a b off n v) (hn : n ≤ 1048576)
  (HC : Hid (∀ i, i < n → ∀ W, Ext w W → Calls Tryz.prog F #[v i, c] W fun e w' => e = .returned (.bool (p i)) ∧ Ext W w')) :
  Calls Tryz.prog 125 #[.slice a n cap, .func (.func F) #[] #[c]] w fun e w' => e = .returned (.bool (anyB p n)) ∧ Ext w w' := by
 have HX := hide (idxS_any F c hF p a b off n cap v w hs hn HC)
 clear hs HC hF
 obtain ⟨R, hR⟩ : ∃ R, anyB p n = R := ⟨_, rfl⟩
 rw [hR] at HX ⊢
 clear hR
 go_enter Tryz.func125, Tryz.ntmps125
 go_wp2_with fail
 refine HX.out.mono ?_
 rintro e w1 ⟨⟨z, rfl, hz⟩, hE1⟩
 have HE1 := hide hE1
 clear hE1
 have Hz := hide hz
 clear hz
 go_wp2
 go_ret
 exact ⟨ret_bool Hz.out, HE1.out⟩
set_option maxHeartbeats 800000 in
theorem aokS1_any (G B : Nat) (hG : ∀ (args : Array Value) (w : World), (callFunc G args).run Tryz.prog w = .ok (.enter G args) w) (r : Bool) (v : Value) (w : World) (hc : w.cell? ⟨B, 0, none⟩ = some (.func (.func G) #[] #[]))
  (HC : Hid (Calls Tryz.prog G #[v] w fun e w' => e = .returned (.bool r) ∧ Ext w w')) :
  Calls Tryz.prog 124 #[v, .pointer (some ⟨B, 0, none⟩)] w fun e w' => e = .returned (.bool (!r)) ∧ Ext w w' := by
 go_enter Tryz.func124, Tryz.ntmps124
 go_wp2_with fail
 refine HC.out.mono ?_
 rintro e w1 ⟨rfl, hE1⟩
 have HE1 := hide hE1
 clear hE1
 go_wp2
 go_ret
 exact ⟨rfl, HE1.out⟩
set_option maxHeartbeats 1600000 in
theorem aokS_any (G : Nat) (hG : ∀ (args : Array Value) (w : World), (callFunc G args).run Tryz.prog w = .ok (.enter G args) w) (p : Nat → Bool) (most : Nat) (a : Option Addr) (b off n cap : Nat) (v : Nat → Value) (w : World) (hs : VSeg w a b off n v) (hn : n ≤ 1048576) (hm : most ≤ 1048576)
  (HC : Hid (∀ i, i < n → ∀ W, Ext w W → Calls Tryz.prog G #[v i] W fun e w' => e = .returned (.bool (p i)) ∧ Ext W w')) :
  Calls Tryz.prog 102 #[.slice a n cap, .int .i64 (most : Int), .func (.func G) #[] #[]] w fun e w' => e = .returned (.bool (decide (n ≤ most) && allB p n)) ∧ Ext w w' := by
 obtain ⟨V, hV⟩ : ∃ V, w.alloc (.cells #[.func (.func G) #[] #[]] 134) = V := ⟨_, rfl⟩
 obtain ⟨B0, hE, hl⟩ := box1 w [.func (.func G) #[] #[]] 134 (w1 := V) (by rw [← hV]; exact Ext.refl _)
 have HB := hide B0
 have HE := hide hE
 have HX := hide (conS_any 124 (.pointer (some ⟨w.heap.size, 0, none⟩)) (fun _ _ => by kernel_rfl) (fun i => !p i) a b off n cap v V (hs.of_all hE) hn
  (hide fun i hi W hW => aokS1_any G w.heap.size hG (p i) (v i) W ((Blk.ext HB.out hW (by omega)) 0 _ rfl).1 (hide (HC.out i hi W (Ext.trans hE hW)))))
 have HR : Hid (allB p n = !anyB (fun i => !p i) n) := rfl
 rw [HR.out]
 generalize anyB (fun i => !p i) n = R at HX ⊢
 clear B0 hE hs hl HR HC hG
 by_cases h : n ≤ most
 ·have h1 : (n : Int) ≤ (most : Int) := by omega
  rw [decide_eq_true h, Bool.true_and]
  clear h
  go_enter Tryz.func102, Tryz.ntmps102
  go_wp2_with fail
  refine HX.out.mono ?_
  rintro e w1 ⟨rfl, hE1⟩
  have HE1 := hide hE1
  clear hE1
  go_wp2
  go_ret
  exact ⟨rfl, Ext.trans HE.out HE1.out⟩
 ·have h1 : ¬ (n : Int) ≤ (most : Int) := by omega
  rw [decide_eq_false h, Bool.false_and]
  clear h
  go_enter Tryz.func102, Tryz.ntmps102
  go_wp2
  go_ret
  exact ⟨rfl, HE.out⟩
set_option maxHeartbeats 1600000 in
theorem idxN_any (F : Nat) (c : Value) (hF : ∀ (args : Array Value) (w : World), (callFunc F args).run Tryz.prog w = .ok (.enter F args) w) (p : Nat → Bool) (a : Option Addr) (b off n cap : Nat) (v : Nat → Value) (w : World) (hs : VSeg w a b off n v) (hn : n ≤ 1048576)
  (HC : Hid (∀ i, i < n → ∀ W, Ext w W → Calls Tryz.prog F #[v i, c] W fun e w' => e = .returned (.bool (p i)) ∧ Ext W w')) :
  Calls Tryz.prog 154 #[.slice a n cap, .func (.func F) #[] #[c]] w fun e w' => IdxQ (anyB p n) e ∧ Ext w w' := by
 have Hs := hide hs
 obtain ⟨R, hR⟩ : ∃ R, R = anyB p n := ⟨_, rfl⟩
 rw [← hR]
 have HR := hide hR
 clear hs hR
 go_enter Tryz.func154, Tryz.ntmps154
 go_wp2
 go_loopw [8] (fun i wr => ∃ k : Nat, k ≤ n ∧ i = .int .i64 (k : Int) ∧ (∀ j, j < k → p j = false) ∧ Ext w wr) (fun i _ => n - (intOf i).toNat)
 case atStart => exact ⟨0, Nat.zero_le _, rfl, fun j hj => absurd hj (Nat.not_lt_zero _), Ext.refl _⟩
 case round =>
  obtain ⟨k, hk, rfl, hd, hE⟩ := hrel
  have HD := hide hd
  have HE := hide hE
  by_cases hlt : k < n
  ·obtain rfl := Hs.out.at' (by omega)
   have c1 := (Hs.out.of_all hE).cell k hlt
   have hkn : (k : Int) < (n : Int) := by omega
   have HX := hide (HC.out k hlt _ hE)
   obtain ⟨q, hq⟩ : ∃ q, p k = q := ⟨_, rfl⟩
   rw [hq] at HX
   have Hq := hide hq
   clear hd hE hq
   go_wp2_with fail
   refine HX.out.mono ?_
   rintro e w1 ⟨rfl, hE1⟩
   have HE1 := hide hE1
   clear hE1
   cases q
   ·go_wp2
    go_roundw
    case rel => exact ⟨k + 1, by omega, by go_num, fun j hj => by
           by_cases e : j = k
           ·subst e; exact Hq.out
           ·exact HD.out j (by omega), Ext.trans HE.out HE1.out⟩
    case measure => simp [intOf]; omega
   ·go_wp2
    go_ret
    exact ⟨⟨_, rfl, by rw [HR.out, anyB_yes hlt Hq.out]; exact decide_eq_true (Int.natCast_nonneg _)⟩, Ext.trans HE.out HE1.out⟩
  ·obtain rfl : k = n := by omega
   clear hd hE
   go_wp2
   go_ret
   exact ⟨⟨_, rfl, by rw [HR.out, anyB_no HD.out]; rfl⟩, HE.out⟩
set_option maxHeartbeats 800000 in
theorem conN_any (F : Nat) (c : Value) (hF : ∀ (args : Array Value) (w : World), (callFunc F args).run Tryz.prog w = .ok (.enter F args) w) (p : Nat → Bool) (a : Option Addr) (b off n cap : Nat) (v : Nat → Value) (w : World) (hs : VSeg w a b off n v) (hn : n ≤ 1048576)
  (HC : Hid (∀ i, i < n → ∀ W, Ext w W → Calls Tryz.prog F #[v i, c] W fun e w' => e = .returned (.bool (p i)) ∧ Ext W w')) :
  Calls Tryz.prog 131 #[.slice a n cap, .func (.func F) #[] #[c]] w fun e w' => e = .returned (.bool (anyB p n)) ∧ Ext w w' := by
 have HX := hide (idxN_any F c hF p a b off n cap v w hs hn HC)
 clear hs HC hF
 obtain ⟨R, hR⟩ : ∃ R, anyB p n = R := ⟨_, rfl⟩
 rw [hR] at HX ⊢
 clear hR
 go_enter Tryz.func131, Tryz.ntmps131
 go_wp2_with fail
 refine HX.out.mono ?_
 rintro e w1 ⟨⟨z, rfl, hz⟩, hE1⟩
 have HE1 := hide hE1
 clear hE1
 have Hz := hide hz
 clear hz
 go_wp2
 go_ret
 exact ⟨ret_bool Hz.out, HE1.out⟩
set_option maxHeartbeats 800000 in
theorem aokN1_any (G B : Nat) (hG : ∀ (args : Array Value) (w : World), (callFunc G args).run Tryz.prog w = .ok (.enter G args) w) (r : Bool) (v : Value) (w : World) (hc : w.cell? ⟨B, 0, none⟩ = some (.func (.func G) #[] #[]))
  (HC : Hid (Calls Tryz.prog G #[v] w fun e w' => e = .returned (.bool r) ∧ Ext w w')) :
  Calls Tryz.prog 130 #[v, .pointer (some ⟨B, 0, none⟩)] w fun e w' => e = .returned (.bool (!r)) ∧ Ext w w' := by
 go_enter Tryz.func130, Tryz.ntmps130
 go_wp2_with fail
 refine HC.out.mono ?_
 rintro e w1 ⟨rfl, hE1⟩
 have HE1 := hide hE1
 clear hE1
 go_wp2
 go_ret
 exact ⟨rfl, HE1.out⟩
set_option maxHeartbeats 1600000 in
theorem aokN_any (G : Nat) (hG : ∀ (args : Array Value) (w : World), (callFunc G args).run Tryz.prog w = .ok (.enter G args) w) (p : Nat → Bool) (most : Nat) (a : Option Addr) (b off n cap : Nat) (v : Nat → Value) (w : World) (hs : VSeg w a b off n v) (hn : n ≤ 1048576) (hm : most ≤ 1048576)
  (HC : Hid (∀ i, i < n → ∀ W, Ext w W → Calls Tryz.prog G #[v i] W fun e w' => e = .returned (.bool (p i)) ∧ Ext W w')) :
  Calls Tryz.prog 107 #[.slice a n cap, .int .i64 (most : Int), .func (.func G) #[] #[]] w fun e w' => e = .returned (.bool (decide (n ≤ most) && allB p n)) ∧ Ext w w' := by
 obtain ⟨V, hV⟩ : ∃ V, w.alloc (.cells #[.func (.func G) #[] #[]] 82) = V := ⟨_, rfl⟩
 obtain ⟨B0, hE, hl⟩ := box1 w [.func (.func G) #[] #[]] 82 (w1 := V) (by rw [← hV]; exact Ext.refl _)
 have HB := hide B0
 have HE := hide hE
 have HX := hide (conN_any 130 (.pointer (some ⟨w.heap.size, 0, none⟩)) (fun _ _ => by kernel_rfl) (fun i => !p i) a b off n cap v V (hs.of_all hE) hn
  (hide fun i hi W hW => aokN1_any G w.heap.size hG (p i) (v i) W ((Blk.ext HB.out hW (by omega)) 0 _ rfl).1 (hide (HC.out i hi W (Ext.trans hE hW)))))
 have HR : Hid (allB p n = !anyB (fun i => !p i) n) := rfl
 rw [HR.out]
 generalize anyB (fun i => !p i) n = R at HX ⊢
 clear B0 hE hs hl HR HC hG
 by_cases h : n ≤ most
 ·have h1 : (n : Int) ≤ (most : Int) := by omega
  rw [decide_eq_true h, Bool.true_and]
  clear h
  go_enter Tryz.func107, Tryz.ntmps107
  go_wp2_with fail
  refine HX.out.mono ?_
  rintro e w1 ⟨rfl, hE1⟩
  have HE1 := hide hE1
  clear hE1
  go_wp2
  go_ret
  exact ⟨rfl, Ext.trans HE.out HE1.out⟩
 ·have h1 : ¬ (n : Int) ≤ (most : Int) := by omega
  rw [decide_eq_false h, Bool.false_and]
  clear h
  go_enter Tryz.func107, Tryz.ntmps107
  go_wp2
  go_ret
  exact ⟨rfl, HE.out⟩
set_option maxHeartbeats 1600000 in
theorem idxI_any (F : Nat) (c : Value) (hF : ∀ (args : Array Value) (w : World), (callFunc F args).run Tryz.prog w = .ok (.enter F args) w) (p : Nat → Bool) (a : Option Addr) (b off n cap : Nat) (v : Nat → Value) (w : World) (hs : VSeg w a b off n v) (hn : n ≤ 1048576)
  (HC : Hid (∀ i, i < n → ∀ W, Ext w W → Calls Tryz.prog F #[v i, c] W fun e w' => e = .returned (.bool (p i)) ∧ Ext W w')) :
  Calls Tryz.prog 116 #[.slice a n cap, .func (.func F) #[] #[c]] w fun e w' => IdxQ (anyB p n) e ∧ Ext w w' := by
 have Hs := hide hs
 obtain ⟨R, hR⟩ : ∃ R, R = anyB p n := ⟨_, rfl⟩
 rw [← hR]
 have HR := hide hR
 clear hs hR
 go_enter Tryz.func116, Tryz.ntmps116
 go_wp2
 go_loopw [8] (fun i wr => ∃ k : Nat, k ≤ n ∧ i = .int .i64 (k : Int) ∧ (∀ j, j < k → p j = false) ∧ Ext w wr) (fun i _ => n - (intOf i).toNat)
 case atStart => exact ⟨0, Nat.zero_le _, rfl, fun j hj => absurd hj (Nat.not_lt_zero _), Ext.refl _⟩
 case round =>
  obtain ⟨k, hk, rfl, hd, hE⟩ := hrel
  have HD := hide hd
  have HE := hide hE
  by_cases hlt : k < n
  ·obtain rfl := Hs.out.at' (by omega)
   have c1 := (Hs.out.of_all hE).cell k hlt
   have hkn : (k : Int) < (n : Int) := by omega
   have HX := hide (HC.out k hlt _ hE)
   obtain ⟨q, hq⟩ : ∃ q, p k = q := ⟨_, rfl⟩
   rw [hq] at HX
   have Hq := hide hq
   clear hd hE hq
   go_wp2_with fail
   refine HX.out.mono ?_
   rintro e w1 ⟨rfl, hE1⟩
   have HE1 := hide hE1
   clear hE1
   cases q
   ·go_wp2
    go_roundw
    case rel => exact ⟨k + 1, by omega, by go_num, fun j hj => by
           by_cases e : j = k
           ·subst e; exact Hq.out
           ·exact HD.out j (by omega), Ext.trans HE.out HE1.out⟩
    case measure => simp [intOf]; omega
   ·go_wp2
    go_ret
    exact ⟨⟨_, rfl, by rw [HR.out, anyB_yes hlt Hq.out]; exact decide_eq_true (Int.natCast_nonneg _)⟩, Ext.trans HE.out HE1.out⟩
  ·obtain rfl : k = n := by omega
   clear hd hE
   go_wp2
   go_ret
   exact ⟨⟨_, rfl, by rw [HR.out, anyB_no HD.out]; rfl⟩, HE.out⟩
set_option maxHeartbeats 800000 in
theorem conI_any (F : Nat) (c : Value) (hF : ∀ (args : Array Value) (w : World), (callFunc F args).run Tryz.prog w = .ok (.enter F args) w) (p : Nat → Bool) (a : Option Addr) (b off n cap : Nat) (v : Nat → Value) (w : World) (hs : VSeg w a b off n v) (hn : n ≤ 1048576)
  (HC : Hid (∀ i, i < n → ∀ W, Ext w W → Calls Tryz.prog F #[v i, c] W fun e w' => e = .returned (.bool (p i)) ∧ Ext W w')) :
  Calls Tryz.prog 88 #[.slice a n cap, .func (.func F) #[] #[c]] w fun e w' => e = .returned (.bool (anyB p n)) ∧ Ext w w' := by
 have HX := hide (idxI_any F c hF p a b off n cap v w hs hn HC)
 clear hs HC hF
 obtain ⟨R, hR⟩ : ∃ R, anyB p n = R := ⟨_, rfl⟩
 rw [hR] at HX ⊢
 clear hR
 go_enter Tryz.func88, Tryz.ntmps88
 go_wp2_with fail
 refine HX.out.mono ?_
 rintro e w1 ⟨⟨z, rfl, hz⟩, hE1⟩
 have HE1 := hide hE1
 clear hE1
 have Hz := hide hz
 clear hz
 go_wp2
 go_ret
 exact ⟨ret_bool Hz.out, HE1.out⟩
set_option maxHeartbeats 800000 in
theorem aokI1_any (G B : Nat) (hG : ∀ (args : Array Value) (w : World), (callFunc G args).run Tryz.prog w = .ok (.enter G args) w) (r : Bool) (v : Value) (w : World) (hc : w.cell? ⟨B, 0, none⟩ = some (.func (.func G) #[] #[]))
  (HC : Hid (Calls Tryz.prog G #[v] w fun e w' => e = .returned (.bool r) ∧ Ext w w')) :
  Calls Tryz.prog 87 #[v, .pointer (some ⟨B, 0, none⟩)] w fun e w' => e = .returned (.bool (!r)) ∧ Ext w w' := by
 go_enter Tryz.func87, Tryz.ntmps87
 go_wp2_with fail
 refine HC.out.mono ?_
 rintro e w1 ⟨rfl, hE1⟩
 have HE1 := hide hE1
 clear hE1
 go_wp2
 go_ret
 exact ⟨rfl, HE1.out⟩
set_option maxHeartbeats 1600000 in
theorem aokI_any (G : Nat) (hG : ∀ (args : Array Value) (w : World), (callFunc G args).run Tryz.prog w = .ok (.enter G args) w) (p : Nat → Bool) (most : Nat) (a : Option Addr) (b off n cap : Nat) (v : Nat → Value) (w : World) (hs : VSeg w a b off n v) (hn : n ≤ 1048576) (hm : most ≤ 1048576)
  (HC : Hid (∀ i, i < n → ∀ W, Ext w W → Calls Tryz.prog G #[v i] W fun e w' => e = .returned (.bool (p i)) ∧ Ext W w')) :
  Calls Tryz.prog 64 #[.slice a n cap, .int .i64 (most : Int), .func (.func G) #[] #[]] w fun e w' => e = .returned (.bool (decide (n ≤ most) && allB p n)) ∧ Ext w w' := by
 obtain ⟨V, hV⟩ : ∃ V, w.alloc (.cells #[.func (.func G) #[] #[]] 110) = V := ⟨_, rfl⟩
 obtain ⟨B0, hE, hl⟩ := box1 w [.func (.func G) #[] #[]] 110 (w1 := V) (by rw [← hV]; exact Ext.refl _)
 have HB := hide B0
 have HE := hide hE
 have HX := hide (conI_any 87 (.pointer (some ⟨w.heap.size, 0, none⟩)) (fun _ _ => by kernel_rfl) (fun i => !p i) a b off n cap v V (hs.of_all hE) hn
  (hide fun i hi W hW => aokI1_any G w.heap.size hG (p i) (v i) W ((Blk.ext HB.out hW (by omega)) 0 _ rfl).1 (hide (HC.out i hi W (Ext.trans hE hW)))))
 have HR : Hid (allB p n = !anyB (fun i => !p i) n) := rfl
 rw [HR.out]
 generalize anyB (fun i => !p i) n = R at HX ⊢
 clear B0 hE hs hl HR HC hG
 by_cases h : n ≤ most
 ·have h1 : (n : Int) ≤ (most : Int) := by omega
  rw [decide_eq_true h, Bool.true_and]
  clear h
  go_enter Tryz.func64, Tryz.ntmps64
  go_wp2_with fail
  refine HX.out.mono ?_
  rintro e w1 ⟨rfl, hE1⟩
  have HE1 := hide hE1
  clear hE1
  go_wp2
  go_ret
  exact ⟨rfl, Ext.trans HE.out HE1.out⟩
 ·have h1 : ¬ (n : Int) ≤ (most : Int) := by omega
  rw [decide_eq_false h, Bool.false_and]
  clear h
  go_enter Tryz.func64, Tryz.ntmps64
  go_wp2
  go_ret
  exact ⟨rfl, HE.out⟩
set_option maxHeartbeats 1600000 in
theorem idxB_any (F : Nat) (c : Value) (hF : ∀ (args : Array Value) (w : World), (callFunc F args).run Tryz.prog w = .ok (.enter F args) w) (p : Nat → Bool) (a : Option Addr) (b off n cap : Nat) (v : Nat → Value) (w : World) (hs : VSeg w a b off n v) (hn : n ≤ 1048576)
  (HC : Hid (∀ i, i < n → ∀ W, Ext w W → Calls Tryz.prog F #[v i, c] W fun e w' => e = .returned (.bool (p i)) ∧ Ext W w')) :
  Calls Tryz.prog 173 #[.slice a n cap, .func (.func F) #[] #[c]] w fun e w' => IdxQ (anyB p n) e ∧ Ext w w' := by
 have Hs := hide hs
 obtain ⟨R, hR⟩ : ∃ R, R = anyB p n := ⟨_, rfl⟩
 rw [← hR]
 have HR := hide hR
 clear hs hR
 go_enter Tryz.func173, Tryz.ntmps173
 go_wp2
 go_loopw [8] (fun i wr => ∃ k : Nat, k ≤ n ∧ i = .int .i64 (k : Int) ∧ (∀ j, j < k → p j = false) ∧ Ext w wr) (fun i _ => n - (intOf i).toNat)
 case atStart => exact ⟨0, Nat.zero_le _, rfl, fun j hj => absurd hj (Nat.not_lt_zero _), Ext.refl _⟩
 case round =>
  obtain ⟨k, hk, rfl, hd, hE⟩ := hrel
  have HD := hide hd
  have HE := hide hE
  by_cases hlt : k < n
  ·obtain rfl := Hs.out.at' (by omega)
   have c1 := (Hs.out.of_all hE).cell k hlt
   have hkn : (k : Int) < (n : Int) := by omega
   have HX := hide (HC.out k hlt _ hE)
   obtain ⟨q, hq⟩ : ∃ q, p k = q := ⟨_, rfl⟩
   rw [hq] at HX
   have Hq := hide hq
   clear hd hE hq
   go_wp2_with fail
   refine HX.out.mono ?_
   rintro e w1 ⟨rfl, hE1⟩
   have HE1 := hide hE1
   clear hE1
   cases q
   ·go_wp2
    go_roundw
    case rel => exact ⟨k + 1, by omega, by go_num, fun j hj => by
           by_cases e : j = k
           ·subst e; exact Hq.out
           ·exact HD.out j (by omega), Ext.trans HE.out HE1.out⟩
    case measure => simp [intOf]; omega
   ·go_wp2
    go_ret
    exact ⟨⟨_, rfl, by rw [HR.out, anyB_yes hlt Hq.out]; exact decide_eq_true (Int.natCast_nonneg _)⟩, Ext.trans HE.out HE1.out⟩
  ·obtain rfl : k = n := by omega
   clear hd hE
   go_wp2
   go_ret
   exact ⟨⟨_, rfl, by rw [HR.out, anyB_no HD.out]; rfl⟩, HE.out⟩
set_option maxHeartbeats 800000 in
theorem conB_any (F : Nat) (c : Value) (hF : ∀ (args : Array Value) (w : World), (callFunc F args).run Tryz.prog w = .ok (.enter F args) w) (p : Nat → Bool) (a : Option Addr) (b off n cap : Nat) (v : Nat → Value) (w : World) (hs : VSeg w a b off n v) (hn : n ≤ 1048576)
  (HC : Hid (∀ i, i < n → ∀ W, Ext w W → Calls Tryz.prog F #[v i, c] W fun e w' => e = .returned (.bool (p i)) ∧ Ext W w')) :
  Calls Tryz.prog 152 #[.slice a n cap, .func (.func F) #[] #[c]] w fun e w' => e = .returned (.bool (anyB p n)) ∧ Ext w w' := by
 have HX := hide (idxB_any F c hF p a b off n cap v w hs hn HC)
 clear hs HC hF
 obtain ⟨R, hR⟩ : ∃ R, anyB p n = R := ⟨_, rfl⟩
 rw [hR] at HX ⊢
 clear hR
 go_enter Tryz.func152, Tryz.ntmps152
 go_wp2_with fail
 refine HX.out.mono ?_
 rintro e w1 ⟨⟨z, rfl, hz⟩, hE1⟩
 have HE1 := hide hE1
 clear hE1
 have Hz := hide hz
 clear hz
 go_wp2
 go_ret
 exact ⟨ret_bool Hz.out, HE1.out⟩
set_option maxHeartbeats 800000 in
theorem aokB1_any (G B : Nat) (hG : ∀ (args : Array Value) (w : World), (callFunc G args).run Tryz.prog w = .ok (.enter G args) w) (r : Bool) (v : Value) (w : World) (hc : w.cell? ⟨B, 0, none⟩ = some (.func (.func G) #[] #[]))
  (HC : Hid (Calls Tryz.prog G #[v] w fun e w' => e = .returned (.bool r) ∧ Ext w w')) :
  Calls Tryz.prog 151 #[v, .pointer (some ⟨B, 0, none⟩)] w fun e w' => e = .returned (.bool (!r)) ∧ Ext w w' := by
 go_enter Tryz.func151, Tryz.ntmps151
 go_wp2_with fail
 refine HC.out.mono ?_
 rintro e w1 ⟨rfl, hE1⟩
 have HE1 := hide hE1
 clear hE1
 go_wp2
 go_ret
 exact ⟨rfl, HE1.out⟩
set_option maxHeartbeats 1600000 in
theorem aokB_any (G : Nat) (hG : ∀ (args : Array Value) (w : World), (callFunc G args).run Tryz.prog w = .ok (.enter G args) w) (p : Nat → Bool) (most : Nat) (a : Option Addr) (b off n cap : Nat) (v : Nat → Value) (w : World) (hs : VSeg w a b off n v) (hn : n ≤ 1048576) (hm : most ≤ 1048576)
  (HC : Hid (∀ i, i < n → ∀ W, Ext w W → Calls Tryz.prog G #[v i] W fun e w' => e = .returned (.bool (p i)) ∧ Ext W w')) :
  Calls Tryz.prog 126 #[.slice a n cap, .int .i64 (most : Int), .func (.func G) #[] #[]] w fun e w' => e = .returned (.bool (decide (n ≤ most) && allB p n)) ∧ Ext w w' := by
 obtain ⟨V, hV⟩ : ∃ V, w.alloc (.cells #[.func (.func G) #[] #[]] 143) = V := ⟨_, rfl⟩
 obtain ⟨B0, hE, hl⟩ := box1 w [.func (.func G) #[] #[]] 143 (w1 := V) (by rw [← hV]; exact Ext.refl _)
 have HB := hide B0
 have HE := hide hE
 have HX := hide (conB_any 151 (.pointer (some ⟨w.heap.size, 0, none⟩)) (fun _ _ => by kernel_rfl) (fun i => !p i) a b off n cap v V (hs.of_all hE) hn
  (hide fun i hi W hW => aokB1_any G w.heap.size hG (p i) (v i) W ((Blk.ext HB.out hW (by omega)) 0 _ rfl).1 (hide (HC.out i hi W (Ext.trans hE hW)))))
 have HR : Hid (allB p n = !anyB (fun i => !p i) n) := rfl
 rw [HR.out]
 generalize anyB (fun i => !p i) n = R at HX ⊢
 clear B0 hE hs hl HR HC hG
 by_cases h : n ≤ most
 ·have h1 : (n : Int) ≤ (most : Int) := by omega
  rw [decide_eq_true h, Bool.true_and]
  clear h
  go_enter Tryz.func126, Tryz.ntmps126
  go_wp2_with fail
  refine HX.out.mono ?_
  rintro e w1 ⟨rfl, hE1⟩
  have HE1 := hide hE1
  clear hE1
  go_wp2
  go_ret
  exact ⟨rfl, Ext.trans HE.out HE1.out⟩
 ·have h1 : ¬ (n : Int) ≤ (most : Int) := by omega
  rw [decide_eq_false h, Bool.false_and]
  clear h
  go_enter Tryz.func126, Tryz.ntmps126
  go_wp2
  go_ret
  exact ⟨rfl, HE.out⟩
end Go.Proofs.YtfhiiakoilkbkaaGreatDoor
