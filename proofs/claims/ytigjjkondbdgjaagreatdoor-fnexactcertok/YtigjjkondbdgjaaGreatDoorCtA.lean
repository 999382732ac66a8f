/- Walks: the program's allOk over lists whose elements are one cell each (written by mkaok.py). Walks: four numbers, InNet of both. Walks: names and extensions that are right: program and model. -/
import Derived.Test.YtigjjkondbdgjaaGreatDoorMgA
import Derived.Handy
import Derived.Laws.EntriesVeiled
import Derived.Test.YtigjjkondbdgjaaGreatDoorNatCm
import Derived.Test.YtigjjkondbdgjaaGreatDoorMgN
import Derived.Deep.RegionWith
import Derived.Test.YtigjjkondbdgjaaGreatDoorMgS
import Derived.Test.YtigjjkondbdgjaaGreatDoorMgH
namespace Go.Proofs.YtigjjkondbdgjaaGreatDoor

section
set_option linter.unusedVariables false
set_option linter.unusedSimpArgs false
set_option maxRecDepth 100000
open Go.RowKit

/-- A list whose elements are one cell each. -/
structure VSeg (w : World) (a : Option Addr) (b off n : Nat) (v : Nat → Value) : Prop where
  at' : 0 < n → a = some ⟨b, off, none⟩
  cell : ∀ i, i < n → w.cell? ⟨b, off + i, none⟩ = some (v i)
theorem VSeg.lt {w : World} {a : Option Addr} {b off n : Nat} {v : Nat → Value} (h : VSeg w a b off n v) (hn : 0 < n) : b < w.heap.size := World.block_lt_of_cell? _ _ (h.cell 0 hn)
theorem VSeg.of_all {w w' : World} {a : Option Addr} {b off n : Nat} {v : Nat → Value} (h : VSeg w a b off n v) (e : Ext w w') : VSeg w' a b off n v :=
  ⟨h.at', fun i hi => (Below.cell e (p := ⟨b, off + i, none⟩) (h.lt (by omega))).trans (h.cell i hi)⟩
theorem SSeg.v {w : World} {a : Option Addr} {b off n : Nat} {f : Nat → ByteArray} (h : SSeg w a b off n f) : VSeg w a b off n (fun i => .string (f i)) := ⟨h.at', h.cell⟩
theorem Seg.v {w : World} {a : Option Addr} {b off n : Nat} {f : Nat → Int} (h : Seg w a b off n f) : VSeg w a b off n (fun i => .int .i64 (f i)) := ⟨h.at', h.cell⟩
theorem BSeg.v {w : World} {a : Option Addr} {b off n : Nat} {f : Nat → Int} (h : BSeg w a b off n f) : VSeg w a b off n (fun i => .int .u8 (f i)) := ⟨h.at', h.cell⟩
theorem NSeg.v {w : World} {p : Pl} {q : Nat → Pl} {n : Nat} {ln : Nat → Nat} {f : Nat → Nat → Int} (h : NSeg w p q n ln f) : VSeg w p.ad p.b p.off n (fun i => .slice (q i).ad (ln i) (q i).cap) := ⟨h.at', h.cell⟩

/-- What slices.IndexFunc answers where R tells whether there is one. -/
def IdxQ (R : Bool) (e : Ending) : Prop := ∃ z : Int, e = .returned (.int .i64 z) ∧ decide (0 ≤ z) = R

set_option maxHeartbeats 1600000 in
theorem idxS_any (F : Nat) (c : Value) (hF : ∀ (args : Array Value) (w : World), (callFunc F args).run Tryz.prog w = .ok (.enter F args) w) (p : Nat → Bool) (a : Option Addr) (b off n cap : Nat) (v : Nat → Value) (w : World) (hs : VSeg w a b off n v) (hn : n ≤ 1048576)
    (HC : Hid (∀ i, i < n → ∀ W, Ext w W → Calls Tryz.prog F #[v i, c] W fun e w' => e = .returned (.bool (p i)) ∧ Ext W w')) :
    Calls Tryz.prog 126 #[.slice a n cap, .func (.func F) #[] #[c]] w fun e w' => IdxQ (anyB p n) e ∧ Ext w w' := by
  have Hs := hide hs
  obtain ⟨R, hR⟩ : ∃ R, R = anyB p n := ⟨_, rfl⟩
  rw [← hR]
  have HR := hide hR
  clear hs hR
  go_enter Tryz.func126, Tryz.ntmps126
  go_wp2
  go_loopw [8] (fun i wr => ∃ k : Nat, k ≤ n ∧ i = .int .i64 (k : Int) ∧ (∀ j, j < k → p j = false) ∧ Ext w wr) (fun i _ => n - (intOf i).toNat)
  case atStart => exact ⟨0, Nat.zero_le _, rfl, fun j hj => absurd hj (Nat.not_lt_zero _), Ext.refl _⟩
  case round =>
    obtain ⟨k, hk, rfl, hd, hE⟩ := hrel
    have HD := hide hd
    have HE := hide hE
    by_cases hlt : k < n
    · obtain rfl := Hs.out.at' (by omega)
      have c1 := (Hs.out.of_all hE).cell k hlt
      have hkn : (k : Int) < (n : Int) := by omega
      have HX := hide (HC.out k hlt _ hE)
      obtain ⟨q, hq⟩ : ∃ q, p k = q := ⟨_, rfl⟩
      rw [hq] at HX
      have Hq := hide hq
      clear hd hE hq
      go_wp2_with fail
      refine HX.out.mono ?_
      rintro e w1 ⟨rfl, hE1⟩
      have HE1 := hide hE1
      clear hE1
      cases q
      · go_wp2
        go_roundw
        case rel => exact ⟨k + 1, by omega, by go_num, fun j hj => by
                      by_cases e : j = k
                      · subst e; exact Hq.out
                      · exact HD.out j (by omega), Ext.trans HE.out HE1.out⟩
        case measure => simp [intOf]; omega
      · go_wp2
        go_ret
        exact ⟨⟨_, rfl, by rw [HR.out, anyB_yes hlt Hq.out]; exact decide_eq_true (Int.natCast_nonneg _)⟩, Ext.trans HE.out HE1.out⟩
    · obtain rfl : k = n := by omega
      clear hd hE
      go_wp2
      go_ret
      exact ⟨⟨_, rfl, by rw [HR.out, anyB_no HD.out]; rfl⟩, HE.out⟩

set_option maxHeartbeats 800000 in
theorem conS_any (F : Nat) (c : Value) (hF : ∀ (args : Array Value) (w : World), (callFunc F args).run Tryz.prog w = .ok (.enter F args) w) (p : Nat → Bool) (a : Option Addr) (b off n cap : Nat) (v : Nat → Value) (w : World) (hs : VSeg w a b off n v) (hn : n ≤ 1048576)
    (HC : Hid (∀ i, i < n → ∀ W, Ext w W → Calls Tryz.prog F #[v i, c] W fun e w' => e = .returned (.bool (p i)) ∧ Ext W w')) :
    Calls Tryz.prog 95 #[.slice a n cap, .func (.func F) #[] #[c]] w fun e w' => e = .returned (.bool (anyB p n)) ∧ Ext w w' := by
  have HX := hide (idxS_any F c hF p a b off n cap v w hs hn HC)
  clear hs HC hF
  obtain ⟨R, hR⟩ : ∃ R, anyB p n = R := ⟨_, rfl⟩
  rw [hR] at HX ⊢
  clear hR
  go_enter Tryz.func95, Tryz.ntmps95
  go_wp2_with fail
  refine HX.out.mono ?_
  rintro e w1 ⟨⟨z, rfl, hz⟩, hE1⟩
  have HE1 := hide hE1
  clear hE1
  have Hz := hide hz
  clear hz
  go_wp2
  go_ret
  exact ⟨ret_bool Hz.out, HE1.out⟩

set_option maxHeartbeats 800000 in
theorem aokS1_any (G B : Nat) (hG : ∀ (args : Array Value) (w : World), (callFunc G args).run Tryz.prog w = .ok (.enter G args) w) (r : Bool) (v : Value) (w : World) (hc : w.cell? ⟨B, 0, none⟩ = some (.func (.func G) #[] #[]))
    (HC : Hid (Calls Tryz.prog G #[v] w fun e w' => e = .returned (.bool r) ∧ Ext w w')) :
    Calls Tryz.prog 94 #[v, .pointer (some ⟨B, 0, none⟩)] w fun e w' => e = .returned (.bool (!r)) ∧ Ext w w' := by
  go_enter Tryz.func94, Tryz.ntmps94
  go_wp2_with fail
  refine HC.out.mono ?_
  rintro e w1 ⟨rfl, hE1⟩
  have HE1 := hide hE1
  clear hE1
  go_wp2
  go_ret
  exact ⟨rfl, HE1.out⟩

set_option maxHeartbeats 1600000 in
theorem aokS_any (G : Nat) (hG : ∀ (args : Array Value) (w : World), (callFunc G args).run Tryz.prog w = .ok (.enter G args) w) (p : Nat → Bool) (most : Nat) (a : Option Addr) (b off n cap : Nat) (v : Nat → Value) (w : World) (hs : VSeg w a b off n v) (hn : n ≤ 1048576) (hm : most ≤ 1048576)
    (HC : Hid (∀ i, i < n → ∀ W, Ext w W → Calls Tryz.prog G #[v i] W fun e w' => e = .returned (.bool (p i)) ∧ Ext W w')) :
    Calls Tryz.prog 64 #[.slice a n cap, .int .i64 (most : Int), .func (.func G) #[] #[]] w fun e w' => e = .returned (.bool (decide (n ≤ most) && allB p n)) ∧ Ext w w' := by
  obtain ⟨V, hV⟩ : ∃ V, w.alloc (.cells #[.func (.func G) #[] #[]] 95) = V := ⟨_, rfl⟩
  obtain ⟨B0, hE, hl⟩ := box1 w [.func (.func G) #[] #[]] 95 (w1 := V) (by rw [← hV]; exact Ext.refl _)
  have HB := hide B0
  have HE := hide hE
  have HX := hide (conS_any 94 (.pointer (some ⟨w.heap.size, 0, none⟩)) (fun _ _ => by kernel_rfl) (fun i => !p i) a b off n cap v V (hs.of_all hE) hn
    (hide fun i hi W hW => aokS1_any G w.heap.size hG (p i) (v i) W ((Blk.ext HB.out hW (by omega)) 0 _ rfl).1 (hide (HC.out i hi W (Ext.trans hE hW)))))
  have HR : Hid (allB p n = !anyB (fun i => !p i) n) := rfl
  rw [HR.out]
  generalize anyB (fun i => !p i) n = R at HX ⊢
  clear B0 hE hs hl HR HC hG
  by_cases h : n ≤ most
  · have h1 : (n : Int) ≤ (most : Int) := by omega
    rw [decide_eq_true h, Bool.true_and]
    clear h
    go_enter Tryz.func64, Tryz.ntmps64
    go_wp2_with fail
    refine HX.out.mono ?_
    rintro e w1 ⟨rfl, hE1⟩
    have HE1 := hide hE1
    clear hE1
    go_wp2
    go_ret
    exact ⟨rfl, Ext.trans HE.out HE1.out⟩
  · have h1 : ¬ (n : Int) ≤ (most : Int) := by omega
    rw [decide_eq_false h, Bool.false_and]
    clear h
    go_enter Tryz.func64, Tryz.ntmps64
    go_wp2
    go_ret
    exact ⟨rfl, HE.out⟩

set_option maxHeartbeats 1600000 in
theorem idxN_any (F : Nat) (c : Value) (hF : ∀ (args : Array Value) (w : World), (callFunc F args).run Tryz.prog w = .ok (.enter F args) w) (p : Nat → Bool) (a : Option Addr) (b off n cap : Nat) (v : Nat → Value) (w : World) (hs : VSeg w a b off n v) (hn : n ≤ 1048576)
    (HC : Hid (∀ i, i < n → ∀ W, Ext w W → Calls Tryz.prog F #[v i, c] W fun e w' => e = .returned (.bool (p i)) ∧ Ext W w')) :
    Calls Tryz.prog 130 #[.slice a n cap, .func (.func F) #[] #[c]] w fun e w' => IdxQ (anyB p n) e ∧ Ext w w' := by
  have Hs := hide hs
  obtain ⟨R, hR⟩ : ∃ R, R = anyB p n := ⟨_, rfl⟩
  rw [← hR]
  have HR := hide hR
  clear hs hR
  go_enter Tryz.func130, Tryz.ntmps130
  go_wp2
  go_loopw [8] (fun i wr => ∃ k : Nat, k ≤ n ∧ i = .int .i64 (k : Int) ∧ (∀ j, j < k → p j = false) ∧ Ext w wr) (fun i _ => n - (intOf i).toNat)
  case atStart => exact ⟨0, Nat.zero_le _, rfl, fun j hj => absurd hj (Nat.not_lt_zero _), Ext.refl _⟩
  case round =>
    obtain ⟨k, hk, rfl, hd, hE⟩ := hrel
    have HD := hide hd
    have HE := hide hE
    by_cases hlt : k < n
    · obtain rfl := Hs.out.at' (by omega)
      have c1 := (Hs.out.of_all hE).cell k hlt
      have hkn : (k : Int) < (n : Int) := by omega
      have HX := hide (HC.out k hlt _ hE)
      obtain ⟨q, hq⟩ : ∃ q, p k = q := ⟨_, rfl⟩
      rw [hq] at HX
      have Hq := hide hq
      clear hd hE hq
      go_wp2_with fail
      refine HX.out.mono ?_
      rintro e w1 ⟨rfl, hE1⟩
      have HE1 := hide hE1
      clear hE1
      cases q
      · go_wp2
        go_roundw
        case rel => exact ⟨k + 1, by omega, by go_num, fun j hj => by
                      by_cases e : j = k
                      · subst e; exact Hq.out
                      · exact HD.out j (by omega), Ext.trans HE.out HE1.out⟩
        case measure => simp [intOf]; omega
      · go_wp2
        go_ret
        exact ⟨⟨_, rfl, by rw [HR.out, anyB_yes hlt Hq.out]; exact decide_eq_true (Int.natCast_nonneg _)⟩, Ext.trans HE.out HE1.out⟩
    · obtain rfl : k = n := by omega
      clear hd hE
      go_wp2
      go_ret
      exact ⟨⟨_, rfl, by rw [HR.out, anyB_no HD.out]; rfl⟩, HE.out⟩

set_option maxHeartbeats 800000 in
theorem conN_any (F : Nat) (c : Value) (hF : ∀ (args : Array Value) (w : World), (callFunc F args).run Tryz.prog w = .ok (.enter F args) w) (p : Nat → Bool) (a : Option Addr) (b off n cap : Nat) (v : Nat → Value) (w : World) (hs : VSeg w a b off n v) (hn : n ≤ 1048576)
    (HC : Hid (∀ i, i < n → ∀ W, Ext w W → Calls Tryz.prog F #[v i, c] W fun e w' => e = .returned (.bool (p i)) ∧ Ext W w')) :
    Calls Tryz.prog 101 #[.slice a n cap, .func (.func F) #[] #[c]] w fun e w' => e = .returned (.bool (anyB p n)) ∧ Ext w w' := by
  have HX := hide (idxN_any F c hF p a b off n cap v w hs hn HC)
  clear hs HC hF
  obtain ⟨R, hR⟩ : ∃ R, anyB p n = R := ⟨_, rfl⟩
  rw [hR] at HX ⊢
  clear hR
  go_enter Tryz.func101, Tryz.ntmps101
  go_wp2_with fail
  refine HX.out.mono ?_
  rintro e w1 ⟨⟨z, rfl, hz⟩, hE1⟩
  have HE1 := hide hE1
  clear hE1
  have Hz := hide hz
  clear hz
  go_wp2
  go_ret
  exact ⟨ret_bool Hz.out, HE1.out⟩

set_option maxHeartbeats 800000 in
theorem aokN1_any (G B : Nat) (hG : ∀ (args : Array Value) (w : World), (callFunc G args).run Tryz.prog w = .ok (.enter G args) w) (r : Bool) (v : Value) (w : World) (hc : w.cell? ⟨B, 0, none⟩ = some (.func (.func G) #[] #[]))
    (HC : Hid (Calls Tryz.prog G #[v] w fun e w' => e = .returned (.bool r) ∧ Ext w w')) :
    Calls Tryz.prog 100 #[v, .pointer (some ⟨B, 0, none⟩)] w fun e w' => e = .returned (.bool (!r)) ∧ Ext w w' := by
  go_enter Tryz.func100, Tryz.ntmps100
  go_wp2_with fail
  refine HC.out.mono ?_
  rintro e w1 ⟨rfl, hE1⟩
  have HE1 := hide hE1
  clear hE1
  go_wp2
  go_ret
  exact ⟨rfl, HE1.out⟩

set_option maxHeartbeats 1600000 in
theorem aokN_any (G : Nat) (hG : ∀ (args : Array Value) (w : World), (callFunc G args).run Tryz.prog w = .ok (.enter G args) w) (p : Nat → Bool) (most : Nat) (a : Option Addr) (b off n cap : Nat) (v : Nat → Value) (w : World) (hs : VSeg w a b off n v) (hn : n ≤ 1048576) (hm : most ≤ 1048576)
    (HC : Hid (∀ i, i < n → ∀ W, Ext w W → Calls Tryz.prog G #[v i] W fun e w' => e = .returned (.bool (p i)) ∧ Ext W w')) :
    Calls Tryz.prog 68 #[.slice a n cap, .int .i64 (most : Int), .func (.func G) #[] #[]] w fun e w' => e = .returned (.bool (decide (n ≤ most) && allB p n)) ∧ Ext w w' := by
  obtain ⟨V, hV⟩ : ∃ V, w.alloc (.cells #[.func (.func G) #[] #[]] 82) = V := ⟨_, rfl⟩
  obtain ⟨B0, hE, hl⟩ := box1 w [.func (.func G) #[] #[]] 82 (w1 := V) (by rw [← hV]; exact Ext.refl _)
  have HB := hide B0
  have HE := hide hE
  have HX := hide (conN_any 100 (.pointer (some ⟨w.heap.size, 0, none⟩)) (fun _ _ => by kernel_rfl) (fun i => !p i) a b off n cap v V (hs.of_all hE) hn
    (hide fun i hi W hW => aokN1_any G w.heap.size hG (p i) (v i) W ((Blk.ext HB.out hW (by omega)) 0 _ rfl).1 (hide (HC.out i hi W (Ext.trans hE hW)))))
  have HR : Hid (allB p n = !anyB (fun i => !p i) n) := rfl
  rw [HR.out]
  generalize anyB (fun i => !p i) n = R at HX ⊢
  clear B0 hE hs hl HR HC hG
  by_cases h : n ≤ most
  · have h1 : (n : Int) ≤ (most : Int) := by omega
    rw [decide_eq_true h, Bool.true_and]
    clear h
    go_enter Tryz.func68, Tryz.ntmps68
    go_wp2_with fail
    refine HX.out.mono ?_
    rintro e w1 ⟨rfl, hE1⟩
    have HE1 := hide hE1
    clear hE1
    go_wp2
    go_ret
    exact ⟨rfl, Ext.trans HE.out HE1.out⟩
  · have h1 : ¬ (n : Int) ≤ (most : Int) := by omega
    rw [decide_eq_false h, Bool.false_and]
    clear h
    go_enter Tryz.func68, Tryz.ntmps68
    go_wp2
    go_ret
    exact ⟨rfl, HE.out⟩

set_option maxHeartbeats 1600000 in
theorem idxI_any (F : Nat) (c : Value) (hF : ∀ (args : Array Value) (w : World), (callFunc F args).run Tryz.prog w = .ok (.enter F args) w) (p : Nat → Bool) (a : Option Addr) (b off n cap : Nat) (v : Nat → Value) (w : World) (hs : VSeg w a b off n v) (hn : n ≤ 1048576)
    (HC : Hid (∀ i, i < n → ∀ W, Ext w W → Calls Tryz.prog F #[v i, c] W fun e w' => e = .returned (.bool (p i)) ∧ Ext W w')) :
    Calls Tryz.prog 133 #[.slice a n cap, .func (.func F) #[] #[c]] w fun e w' => IdxQ (anyB p n) e ∧ Ext w w' := by
  have Hs := hide hs
  obtain ⟨R, hR⟩ : ∃ R, R = anyB p n := ⟨_, rfl⟩
  rw [← hR]
  have HR := hide hR
  clear hs hR
  go_enter Tryz.func133, Tryz.ntmps133
  go_wp2
  go_loopw [8] (fun i wr => ∃ k : Nat, k ≤ n ∧ i = .int .i64 (k : Int) ∧ (∀ j, j < k → p j = false) ∧ Ext w wr) (fun i _ => n - (intOf i).toNat)
  case atStart => exact ⟨0, Nat.zero_le _, rfl, fun j hj => absurd hj (Nat.not_lt_zero _), Ext.refl _⟩
  case round =>
    obtain ⟨k, hk, rfl, hd, hE⟩ := hrel
    have HD := hide hd
    have HE := hide hE
    by_cases hlt : k < n
    · obtain rfl := Hs.out.at' (by omega)
      have c1 := (Hs.out.of_all hE).cell k hlt
      have hkn : (k : Int) < (n : Int) := by omega
      have HX := hide (HC.out k hlt _ hE)
      obtain ⟨q, hq⟩ : ∃ q, p k = q := ⟨_, rfl⟩
      rw [hq] at HX
      have Hq := hide hq
      clear hd hE hq
      go_wp2_with fail
      refine HX.out.mono ?_
      rintro e w1 ⟨rfl, hE1⟩
      have HE1 := hide hE1
      clear hE1
      cases q
      · go_wp2
        go_roundw
        case rel => exact ⟨k + 1, by omega, by go_num, fun j hj => by
                      by_cases e : j = k
                      · subst e; exact Hq.out
                      · exact HD.out j (by omega), Ext.trans HE.out HE1.out⟩
        case measure => simp [intOf]; omega
      · go_wp2
        go_ret
        exact ⟨⟨_, rfl, by rw [HR.out, anyB_yes hlt Hq.out]; exact decide_eq_true (Int.natCast_nonneg _)⟩, Ext.trans HE.out HE1.out⟩
    · obtain rfl : k = n := by omega
      clear hd hE
      go_wp2
      go_ret
      exact ⟨⟨_, rfl, by rw [HR.out, anyB_no HD.out]; rfl⟩, HE.out⟩

set_option maxHeartbeats 800000 in
theorem conI_any (F : Nat) (c : Value) (hF : ∀ (args : Array Value) (w : World), (callFunc F args).run Tryz.prog w = .ok (.enter F args) w) (p : Nat → Bool) (a : Option Addr) (b off n cap : Nat) (v : Nat → Value) (w : World) (hs : VSeg w a b off n v) (hn : n ≤ 1048576)
    (HC : Hid (∀ i, i < n → ∀ W, Ext w W → Calls Tryz.prog F #[v i, c] W fun e w' => e = .returned (.bool (p i)) ∧ Ext W w')) :
    Calls Tryz.prog 105 #[.slice a n cap, .func (.func F) #[] #[c]] w fun e w' => e = .returned (.bool (anyB p n)) ∧ Ext w w' := by
  have HX := hide (idxI_any F c hF p a b off n cap v w hs hn HC)
  clear hs HC hF
  obtain ⟨R, hR⟩ : ∃ R, anyB p n = R := ⟨_, rfl⟩
  rw [hR] at HX ⊢
  clear hR
  go_enter Tryz.func105, Tryz.ntmps105
  go_wp2_with fail
  refine HX.out.mono ?_
  rintro e w1 ⟨⟨z, rfl, hz⟩, hE1⟩
  have HE1 := hide hE1
  clear hE1
  have Hz := hide hz
  clear hz
  go_wp2
  go_ret
  exact ⟨ret_bool Hz.out, HE1.out⟩

set_option maxHeartbeats 800000 in
theorem aokI1_any (G B : Nat) (hG : ∀ (args : Array Value) (w : World), (callFunc G args).run Tryz.prog w = .ok (.enter G args) w) (r : Bool) (v : Value) (w : World) (hc : w.cell? ⟨B, 0, none⟩ = some (.func (.func G) #[] #[]))
    (HC : Hid (Calls Tryz.prog G #[v] w fun e w' => e = .returned (.bool r) ∧ Ext w w')) :
    Calls Tryz.prog 104 #[v, .pointer (some ⟨B, 0, none⟩)] w fun e w' => e = .returned (.bool (!r)) ∧ Ext w w' := by
  go_enter Tryz.func104, Tryz.ntmps104
  go_wp2_with fail
  refine HC.out.mono ?_
  rintro e w1 ⟨rfl, hE1⟩
  have HE1 := hide hE1
  clear hE1
  go_wp2
  go_ret
  exact ⟨rfl, HE1.out⟩

set_option maxHeartbeats 1600000 in
theorem aokI_any (G : Nat) (hG : ∀ (args : Array Value) (w : World), (callFunc G args).run Tryz.prog w = .ok (.enter G args) w) (p : Nat → Bool) (most : Nat) (a : Option Addr) (b off n cap : Nat) (v : Nat → Value) (w : World) (hs : VSeg w a b off n v) (hn : n ≤ 1048576) (hm : most ≤ 1048576)
    (HC : Hid (∀ i, i < n → ∀ W, Ext w W → Calls Tryz.prog G #[v i] W fun e w' => e = .returned (.bool (p i)) ∧ Ext W w')) :
    Calls Tryz.prog 71 #[.slice a n cap, .int .i64 (most : Int), .func (.func G) #[] #[]] w fun e w' => e = .returned (.bool (decide (n ≤ most) && allB p n)) ∧ Ext w w' := by
  obtain ⟨V, hV⟩ : ∃ V, w.alloc (.cells #[.func (.func G) #[] #[]] 67) = V := ⟨_, rfl⟩
  obtain ⟨B0, hE, hl⟩ := box1 w [.func (.func G) #[] #[]] 67 (w1 := V) (by rw [← hV]; exact Ext.refl _)
  have HB := hide B0
  have HE := hide hE
  have HX := hide (conI_any 104 (.pointer (some ⟨w.heap.size, 0, none⟩)) (fun _ _ => by kernel_rfl) (fun i => !p i) a b off n cap v V (hs.of_all hE) hn
    (hide fun i hi W hW => aokI1_any G w.heap.size hG (p i) (v i) W ((Blk.ext HB.out hW (by omega)) 0 _ rfl).1 (hide (HC.out i hi W (Ext.trans hE hW)))))
  have HR : Hid (allB p n = !anyB (fun i => !p i) n) := rfl
  rw [HR.out]
  generalize anyB (fun i => !p i) n = R at HX ⊢
  clear B0 hE hs hl HR HC hG
  by_cases h : n ≤ most
  · have h1 : (n : Int) ≤ (most : Int) := by omega
    rw [decide_eq_true h, Bool.true_and]
    clear h
    go_enter Tryz.func71, Tryz.ntmps71
    go_wp2_with fail
    refine HX.out.mono ?_
    rintro e w1 ⟨rfl, hE1⟩
    have HE1 := hide hE1
    clear hE1
    go_wp2
    go_ret
    exact ⟨rfl, Ext.trans HE.out HE1.out⟩
  · have h1 : ¬ (n : Int) ≤ (most : Int) := by omega
    rw [decide_eq_false h, Bool.false_and]
    clear h
    go_enter Tryz.func71, Tryz.ntmps71
    go_wp2
    go_ret
    exact ⟨rfl, HE.out⟩

set_option maxHeartbeats 1600000 in
theorem idxB_any (F : Nat) (c : Value) (hF : ∀ (args : Array Value) (w : World), (callFunc F args).run Tryz.prog w = .ok (.enter F args) w) (p : Nat → Bool) (a : Option Addr) (b off n cap : Nat) (v : Nat → Value) (w : World) (hs : VSeg w a b off n v) (hn : n ≤ 1048576)
    (HC : Hid (∀ i, i < n → ∀ W, Ext w W → Calls Tryz.prog F #[v i, c] W fun e w' => e = .returned (.bool (p i)) ∧ Ext W w')) :
    Calls Tryz.prog 154 #[.slice a n cap, .func (.func F) #[] #[c]] w fun e w' => IdxQ (anyB p n) e ∧ Ext w w' := by
  have Hs := hide hs
  obtain ⟨R, hR⟩ : ∃ R, R = anyB p n := ⟨_, rfl⟩
  rw [← hR]
  have HR := hide hR
  clear hs hR
  go_enter Tryz.func154, Tryz.ntmps154
  go_wp2
  go_loopw [8] (fun i wr => ∃ k : Nat, k ≤ n ∧ i = .int .i64 (k : Int) ∧ (∀ j, j < k → p j = false) ∧ Ext w wr) (fun i _ => n - (intOf i).toNat)
  case atStart => exact ⟨0, Nat.zero_le _, rfl, fun j hj => absurd hj (Nat.not_lt_zero _), Ext.refl _⟩
  case round =>
    obtain ⟨k, hk, rfl, hd, hE⟩ := hrel
    have HD := hide hd
    have HE := hide hE
    by_cases hlt : k < n
    · obtain rfl := Hs.out.at' (by omega)
      have c1 := (Hs.out.of_all hE).cell k hlt
      have hkn : (k : Int) < (n : Int) := by omega
      have HX := hide (HC.out k hlt _ hE)
      obtain ⟨q, hq⟩ : ∃ q, p k = q := ⟨_, rfl⟩
      rw [hq] at HX
      have Hq := hide hq
      clear hd hE hq
      go_wp2_with fail
      refine HX.out.mono ?_
      rintro e w1 ⟨rfl, hE1⟩
      have HE1 := hide hE1
      clear hE1
      cases q
      · go_wp2
        go_roundw
        case rel => exact ⟨k + 1, by omega, by go_num, fun j hj => by
                      by_cases e : j = k
                      · subst e; exact Hq.out
                      · exact HD.out j (by omega), Ext.trans HE.out HE1.out⟩
        case measure => simp [intOf]; omega
      · go_wp2
        go_ret
        exact ⟨⟨_, rfl, by rw [HR.out, anyB_yes hlt Hq.out]; exact decide_eq_true (Int.natCast_nonneg _)⟩, Ext.trans HE.out HE1.out⟩
    · obtain rfl : k = n := by omega
      clear hd hE
      go_wp2
      go_ret
      exact ⟨⟨_, rfl, by rw [HR.out, anyB_no HD.out]; rfl⟩, HE.out⟩

set_option maxHeartbeats 800000 in
theorem conB_any (F : Nat) (c : Value) (hF : ∀ (args : Array Value) (w : World), (callFunc F args).run Tryz.prog w = .ok (.enter F args) w) (p : Nat → Bool) (a : Option Addr) (b off n cap : Nat) (v : Nat → Value) (w : World) (hs : VSeg w a b off n v) (hn : n ≤ 1048576)
    (HC : Hid (∀ i, i < n → ∀ W, Ext w W → Calls Tryz.prog F #[v i, c] W fun e w' => e = .returned (.bool (p i)) ∧ Ext W w')) :
    Calls Tryz.prog 128 #[.slice a n cap, .func (.func F) #[] #[c]] w fun e w' => e = .returned (.bool (anyB p n)) ∧ Ext w w' := by
  have HX := hide (idxB_any F c hF p a b off n cap v w hs hn HC)
  clear hs HC hF
  obtain ⟨R, hR⟩ : ∃ R, anyB p n = R := ⟨_, rfl⟩
  rw [hR] at HX ⊢
  clear hR
  go_enter Tryz.func128, Tryz.ntmps128
  go_wp2_with fail
  refine HX.out.mono ?_
  rintro e w1 ⟨⟨z, rfl, hz⟩, hE1⟩
  have HE1 := hide hE1
  clear hE1
  have Hz := hide hz
  clear hz
  go_wp2
  go_ret
  exact ⟨ret_bool Hz.out, HE1.out⟩

set_option maxHeartbeats 800000 in
theorem aokB1_any (G B : Nat) (hG : ∀ (args : Array Value) (w : World), (callFunc G args).run Tryz.prog w = .ok (.enter G args) w) (r : Bool) (v : Value) (w : World) (hc : w.cell? ⟨B, 0, none⟩ = some (.func (.func G) #[] #[]))
    (HC : Hid (Calls Tryz.prog G #[v] w fun e w' => e = .returned (.bool r) ∧ Ext w w')) :
    Calls Tryz.prog 127 #[v, .pointer (some ⟨B, 0, none⟩)] w fun e w' => e = .returned (.bool (!r)) ∧ Ext w w' := by
  go_enter Tryz.func127, Tryz.ntmps127
  go_wp2_with fail
  refine HC.out.mono ?_
  rintro e w1 ⟨rfl, hE1⟩
  have HE1 := hide hE1
  clear hE1
  go_wp2
  go_ret
  exact ⟨rfl, HE1.out⟩

set_option maxHeartbeats 1600000 in
theorem aokB_any (G : Nat) (hG : ∀ (args : Array Value) (w : World), (callFunc G args).run Tryz.prog w = .ok (.enter G args) w) (p : Nat → Bool) (most : Nat) (a : Option Addr) (b off n cap : Nat) (v : Nat → Value) (w : World) (hs : VSeg w a b off n v) (hn : n ≤ 1048576) (hm : most ≤ 1048576)
    (HC : Hid (∀ i, i < n → ∀ W, Ext w W → Calls Tryz.prog G #[v i] W fun e w' => e = .returned (.bool (p i)) ∧ Ext W w')) :
    Calls Tryz.prog 96 #[.slice a n cap, .int .i64 (most : Int), .func (.func G) #[] #[]] w fun e w' => e = .returned (.bool (decide (n ≤ most) && allB p n)) ∧ Ext w w' := by
  obtain ⟨V, hV⟩ : ∃ V, w.alloc (.cells #[.func (.func G) #[] #[]] 111) = V := ⟨_, rfl⟩
  obtain ⟨B0, hE, hl⟩ := box1 w [.func (.func G) #[] #[]] 111 (w1 := V) (by rw [← hV]; exact Ext.refl _)
  have HB := hide B0
  have HE := hide hE
  have HX := hide (conB_any 127 (.pointer (some ⟨w.heap.size, 0, none⟩)) (fun _ _ => by kernel_rfl) (fun i => !p i) a b off n cap v V (hs.of_all hE) hn
    (hide fun i hi W hW => aokB1_any G w.heap.size hG (p i) (v i) W ((Blk.ext HB.out hW (by omega)) 0 _ rfl).1 (hide (HC.out i hi W (Ext.trans hE hW)))))
  have HR : Hid (allB p n = !anyB (fun i => !p i) n) := rfl
  rw [HR.out]
  generalize anyB (fun i => !p i) n = R at HX ⊢
  clear B0 hE hs hl HR HC hG
  by_cases h : n ≤ most
  · have h1 : (n : Int) ≤ (most : Int) := by omega
    rw [decide_eq_true h, Bool.true_and]
    clear h
    go_enter Tryz.func96, Tryz.ntmps96
    go_wp2_with fail
    refine HX.out.mono ?_
    rintro e w1 ⟨rfl, hE1⟩
    have HE1 := hide hE1
    clear hE1
    go_wp2
    go_ret
    exact ⟨rfl, Ext.trans HE.out HE1.out⟩
  · have h1 : ¬ (n : Int) ≤ (most : Int) := by omega
    rw [decide_eq_false h, Bool.false_and]
    clear h
    go_enter Tryz.func96, Tryz.ntmps96
    go_wp2
    go_ret
    exact ⟨rfl, HE.out⟩
end

section
set_option linter.unusedVariables false
set_option linter.unusedSimpArgs false
open Go.RowKit

/-- Four numbers of 0 .. 255. -/
def octs (f : Nat → Int) : Nat → Bool
  | 0 => true
  | n + 1 => octs f n && (decide (0 ≤ f n) && decide (f n ≤ 255))
theorem octs_iff (f : Nat → Int) (n : Nat) : octs f n = true ↔ ∀ i, i < n → 0 ≤ f i ∧ f i ≤ 255 := by
  induction n with
  | zero => simp [octs]
  | succ n ih =>
    simp only [octs, Bool.and_eq_true, ih, decide_eq_true_eq]
    constructor
    · rintro ⟨h, h0, h1⟩ i hi
      by_cases e : i = n
      · subst e; exact ⟨h0, h1⟩
      · exact h i (by omega)
    · intro h
      exact ⟨fun i hi => h i (by omega), (h n (by omega)).1, (h n (by omega)).2⟩
def fourB (n : Nat) (f : Nat → Int) : Bool := octs f n && decide (n = 4)
theorem four_no {f : Nat → Int} {n k : Nat} (hk : k < n) (h : f k < 0 ∨ 255 < f k) : fourB n f = false := by
  unfold fourB
  cases e : octs f n with
  | false => rfl
  | true => have := (octs_iff f n).1 e k hk; omega
theorem four_end {f : Nat → Int} {n : Nat} (h : ∀ i, i < n → 0 ≤ f i ∧ f i ≤ 255) : fourB n f = decide (n = 4) := by
  unfold fourB
  rw [(octs_iff f n).2 h, Bool.true_and]
theorem four_is {f : Nat → Int} {n : Nat} (h : fourB n f = true) : n = 4 ∧ ∀ i, i < 4 → 0 ≤ f i ∧ f i ≤ 255 := by
  unfold fourB at h
  simp only [Bool.and_eq_true, decide_eq_true_eq] at h
  obtain ⟨h1, rfl⟩ := h
  exact ⟨rfl, (octs_iff f 4).1 h1⟩

set_option maxHeartbeats 400000 in
theorem l8Four_any (a : Option Addr) (b off n cap : Nat) (f : Nat → Int) (w : World) (hs : Seg w a b off n f) (hn : n ≤ 1048576) :
    Calls Tryz.prog 57 #[.slice a n cap] w fun e w' => e = .returned (.bool (fourB n f)) ∧ w' = w := by
  go_enter Tryz.func57, Tryz.ntmps57
  go_wp2
  go_loop [3] (fun i => ∃ k : Nat, k ≤ n ∧ i = .int .i64 k ∧ ∀ j, j < k → 0 ≤ f j ∧ f j ≤ 255) (fun i => n - (intOf i).toNat)
  case atStart => exact ⟨0, Nat.zero_le _, rfl, fun j hj => absurd hj (Nat.not_lt_zero _)⟩
  case round =>
    obtain ⟨k, hk, rfl, hd⟩ := hrel
    by_cases hlt : k < n
    · obtain rfl := hs.at' (by omega)
      have hc := hs.cell k hlt
      by_cases hin : 0 ≤ f k ∧ f k ≤ 255
      · obtain ⟨h0, h1⟩ := hin
        have hb : (decide (0 ≤ f k) && decide (f k ≤ 255)) = true := by simp [h0, h1]
        go_wp2_with (go_at_call 22; refine (l1In_any _ _ _ _).mono ?_; rintro e w' ⟨rfl, rfl⟩)
        go_round
        case rel => exact ⟨k + 1, by omega, by go_num, fun j hj => by
                      by_cases e : j = k
                      · subst e; exact ⟨h0, h1⟩
                      · exact hd j (by omega)⟩
        case measure => simp [intOf]; omega
      · have hb : (decide (0 ≤ f k) && decide (f k ≤ 255)) = false := by simp; omega
        go_wp2_with (go_at_call 22; refine (l1In_any _ _ _ _).mono ?_; rintro e w' ⟨rfl, rfl⟩)
        go_ret
        exact ⟨ret_bool (four_no hlt (by omega)).symm, rfl⟩
    · obtain rfl : k = n := by omega
      have Hfin := hide (four_end hd)
      clear hd
      by_cases h4 : k = 4
      · have hz : ((k : Int) == 4) = true := by simp; omega
        have H4 := hide h4
        clear h4
        go_wp2
        go_ret
        exact ⟨ret_bool (by rw [Hfin.out]; simp [H4.out]), rfl⟩
      · have hz : ((k : Int) == 4) = false := by simp; omega
        go_wp2
        go_ret
        exact ⟨ret_bool (by rw [Hfin.out]; simp [h4]), rfl⟩

set_option maxHeartbeats 400000 in
theorem addressOk_any (a : Option Addr) (b off n cap : Nat) (f : Nat → Int) (w : World) (hs : Seg w a b off n f) (hn : n ≤ 1048576) :
    Calls Tryz.prog 69 #[.slice a n cap] w fun e w' => e = .returned (.bool (fourB n f)) ∧ w' = w := by
  by_cases h4 : n = 4
  · subst h4
    go_enter Tryz.func69, Tryz.ntmps69
    go_wp2
    go_loop [10] (fun i => ∃ k : Nat, k ≤ 4 ∧ i = .int .i64 k ∧ ∀ j, j < k → 0 ≤ f j ∧ f j ≤ 255) (fun i => 4 - (intOf i).toNat)
    case atStart => exact ⟨0, Nat.zero_le _, rfl, fun j hj => absurd hj (Nat.not_lt_zero _)⟩
    case round =>
      obtain ⟨k, hk, rfl, hd⟩ := hrel
      by_cases hlt : k < 4
      · have hkn : (k : Int) < 4 := by omega
        obtain rfl := hs.at' (by omega)
        have hc := hs.cell k hlt
        by_cases h0 : f k < 0
        · go_wp2
          go_ret
          exact ⟨ret_bool (four_no hlt (by omega)).symm, rfl⟩
        · by_cases h1 : 255 < f k
          · go_wp2
            go_ret
            exact ⟨ret_bool (four_no hlt (by omega)).symm, rfl⟩
          · go_wp2
            go_round
            case rel => exact ⟨k + 1, by omega, by go_num, fun j hj => by
                          by_cases e : j = k
                          · subst e; omega
                          · exact hd j (by omega)⟩
            case measure => simp [intOf]; omega
      · obtain rfl : k = 4 := by omega
        have Hfin := hide (four_end hd)
        clear hd
        go_wp2
        go_ret
        exact ⟨ret_bool (by rw [Hfin.out]; rfl), rfl⟩
  · have hz : ((n : Int) != 4) = true := by simp; omega
    go_enter Tryz.func69, Tryz.ntmps69
    go_wp2
    go_ret
    exact ⟨ret_bool (by simp [fourB, h4]), rfl⟩

/-- The number that an address is. -/
def whole (f : Nat → Int) : Int := f 0 * 16777216 + f 1 * 65536 + f 2 * 256 + f 3

theorem or_byte (a b : Int) (ha : 0 ≤ a) (ha' : a ≤ 16777215) (hb : 0 ≤ b) (hb' : b ≤ 255) : bits .or .i64 (a * 256) b = a * 256 + b := by
  show IntKind.i64.wrap ((BitVec.ofInt 64 (a * 256) ||| BitVec.ofInt 64 b).toNat : Int) = _
  obtain ⟨A, rfl⟩ := Int.eq_ofNat_of_zero_le ha
  obtain ⟨B, rfl⟩ := Int.eq_ofNat_of_zero_le hb
  have e1 : ((A : Int) * 256 % 18446744073709551616).toNat = 2 ^ 8 * A := by omega
  have e2 : ((B : Int) % 18446744073709551616).toNat = B := by omega
  rw [BitVec.toNat_or, ofInt64, ofInt64, e1, e2, ← Nat.two_pow_add_eq_or_of_lt (by omega), IntKind.wrap_i64]
  omega

def wholeK (f : Nat → Int) : Nat → Int
  | 0 => 0
  | k + 1 => wholeK f k * 256 + f k

/-- What is left of a number when the low bits go. -/
def lowCut (x : Int) (bits : Int) : Int := x / 2 ^ (32 - bits).toNat
def netB (n : Nat) (f : Nat → Int) (bits : Int) (m : Nat) (g : Nat → Int) : Bool :=
  fourB n f && (fourB m g && (decide (0 ≤ bits) && decide (bits ≤ 32) && (lowCut (whole f) bits == lowCut (whole g) bits)))
end

section
set_option linter.unusedVariables false
set_option linter.unusedSimpArgs false
set_option maxRecDepth 100000
open Go.RowKit

def inB (x lo hi : Int) : Bool := decide (lo ≤ x) && decide (x ≤ hi)
theorem inB_yes {x lo hi : Int} (h1 : lo ≤ x) (h2 : x ≤ hi) : inB x lo hi = true := by unfold inB; rw [decide_eq_true h1, decide_eq_true h2]; rfl
theorem inB_no {x lo hi : Int} (h : x < lo ∨ hi < x) : inB x lo hi = false := by
  unfold inB
  rcases h with h | h
  · rw [decide_eq_false (by omega), Bool.false_and]
  · rw [decide_eq_false (show ¬ x ≤ hi by omega), Bool.and_false]
theorem l1InB (x lo hi : Int) (w : World) : Calls Tryz.prog 22 #[.int .i64 x, .int .i64 lo, .int .i64 hi] w fun e w' => e = .returned (.bool (inB x lo hi)) ∧ w' = w := l1In_int x lo hi w

theorem inRange_any (x lo hi : Int) (w : World) : Calls Tryz.prog 31 #[.int .i64 x, .int .i64 lo, .int .i64 hi] w fun e w' => e = .returned (.bool (inB x lo hi)) ∧ w' = w := by
  unfold inB
  by_cases h1 : lo ≤ x
  · by_cases h2 : x ≤ hi
    · go_enter Tryz.func31, Tryz.ntmps31
      go_wp2
      go_ret
      exact ⟨ret_bool (by simp [h1, h2]), rfl⟩
    · go_enter Tryz.func31, Tryz.ntmps31
      go_wp2
      go_ret
      exact ⟨ret_bool (by simp [h1, h2]), rfl⟩
  · go_enter Tryz.func31, Tryz.ntmps31
    go_wp2
    go_ret
    exact ⟨ret_bool (by rw [decide_eq_false (show ¬ lo ≤ x by omega), Bool.false_and]), rfl⟩

def tmB (t : Int) : Bool := inB t (-631152000) 4102444799
theorem l9OkB (t : Int) (w : World) : Calls Tryz.prog 24 #[.int .i64 t] w fun e w' => e = .returned (.bool (tmB t)) ∧ w' = w := by
  have HX := hide (l1InB t (-631152000) 4102444799 w)
  have HV : Hid (tmB t = inB t (-631152000) 4102444799) := rfl
  rw [HV.out]
  generalize inB t (-631152000) 4102444799 = R at *
  clear HV
  go_enter Tryz.func24, Tryz.ntmps24
  go_wp2_with fail
  refine HX.out.mono ?_
  rintro e w1 ⟨rfl, hw⟩
  obtain rfl := hw.symm
  go_wp2
  go_ret
  exact ⟨rfl, rfl⟩

theorem isTimeB (t : Int) (w : World) : Calls Tryz.prog 33 #[.int .i64 t] w fun e w' => e = .returned (.bool (tmB t)) ∧ w' = w := by
  unfold tmB inB
  by_cases h1 : (-631152000 : Int) ≤ t
  · by_cases h2 : t ≤ 4102444799
    · go_enter Tryz.func33, Tryz.ntmps33
      go_wp2
      go_ret
      exact ⟨ret_bool (by simp [h1, h2]), rfl⟩
    · go_enter Tryz.func33, Tryz.ntmps33
      go_wp2
      go_ret
      exact ⟨ret_bool (by simp [h1, h2]), rfl⟩
  · go_enter Tryz.func33, Tryz.ntmps33
    go_wp2
    go_ret
    exact ⟨ret_bool (by rw [decide_eq_false (show ¬ -631152000 ≤ t by omega), Bool.false_and]), rfl⟩

/-- A byte, a text, a name that is right. -/
def byB (x : Nat) : Bool := inB (x : Int) 32 126
def txB (s : ByteArray) : Bool := inB (s.size : Int) 1 40 && allB (fun k => byB (bt s k)) s.size
def nmB (n : Nat) (f : Nat → ByteArray) : Bool := inB (n : Int) 1 4 && allB (fun i => txB (f i)) n

set_option maxHeartbeats 800000 in
theorem textByteOk_any (x : Nat) (hx : x < 256) (w : World) : Calls Tryz.prog 97 #[.int .u8 (x : Int)] w fun e w' => e = .returned (.bool (byB x)) ∧ Ext w w' := by
  have HX := hide (inRange_any (x : Int) 32 126 w)
  have HV : Hid (byB x = inB (x : Int) 32 126) := rfl
  rw [HV.out]
  generalize inB (x : Int) 32 126 = R at *
  clear HV
  go_enter Tryz.func97, Tryz.ntmps97
  go_wp2_with fail
  refine HX.out.mono ?_
  rintro e w1 ⟨rfl, hw⟩
  obtain rfl := hw.symm
  go_wp2
  go_ret
  exact ⟨rfl, Ext.refl _⟩

set_option maxHeartbeats 1600000 in
theorem textOk_any (s : ByteArray) (hs : s.size ≤ 1048576) (w : World) : Calls Tryz.prog 65 #[.string s] w fun e w' => e = .returned (.bool (txB s)) ∧ Ext w w' := by
  have HI := hide (inRange_any (s.size : Int) 1 40 w)
  have HV : Hid (txB s = (inB (s.size : Int) 1 40 && allB (fun k => byB (bt s k)) s.size)) := rfl
  rw [HV.out]
  clear HV
  by_cases h : inB (s.size : Int) 1 40 = true
  · rw [h] at HI ⊢
    rw [Bool.true_and]
    have hl : s.size ≤ 40 := by
      unfold inB at h
      simp at h
      omega
    have hcv := run_bytes_of_string (P := Tryz.prog) w 9 37 5 s (by kernel_rfl) (by kernel_rfl) (by kernel_rfl)
    have HKb : Hid ((w.drew.alloc (.cells (bytesRow s (grownCap w s.size 0 5)) 5 ((bytesRow s (grownCap w s.size 0 5)).size, (bytesRow s (grownCap w s.size 0 5)).size + 1))).heap[w.heap.size]? = some (.cells (bytesRow s (grownCap w s.size 0 5)) 5 ((bytesRow s (grownCap w s.size 0 5)).size, (bytesRow s (grownCap w s.size 0 5)).size + 1))) := heap_alloc_new w.drew _
    have HE2 : Hid (Ext w (w.drew.alloc (.cells (bytesRow s (grownCap w s.size 0 5)) 5 ((bytesRow s (grownCap w s.size 0 5)).size, (bytesRow s (grownCap w s.size 0 5)).size + 1)))) := Ext.trans (b := w.drew) ⟨rfl, rfl, rfl, Nat.le_refl _, fun _ _ => rfl⟩ (Ext.alloc _ _)
    generalize w.drew.alloc (.cells (bytesRow s (grownCap w s.size 0 5)) 5 ((bytesRow s (grownCap w s.size 0 5)).size, (bytesRow s (grownCap w s.size 0 5)).size + 1)) = w2 at *
    have HA := hide (aokB_any 97 (fun _ _ => by kernel_rfl) (fun k => byB (bt s k)) 40 (some ⟨w.heap.size, 0, none⟩) w.heap.size 0 s.size (grownCap w s.size 0 5) (fun k => .int .u8 (bt s k : Int)) w2
      ⟨fun _ => rfl, fun i hi => by rw [Nat.zero_add]; exact str_cells HKb.out hi⟩ (by omega) (by omega)
      (hide fun i hi W hW => textByteOk_any (bt s i) (bt_lt s i) W))
    rw [decide_eq_true hl, Bool.true_and] at HA
    generalize grownCap w s.size 0 5 = cap at *
    generalize w.heap.size = K at *
    generalize allB (fun k => byB (bt s k)) s.size = R at *
    clear h
    go_enter Tryz.func65, Tryz.ntmps65
    go_wp2_with fail
    refine HI.out.mono ?_
    rintro e w1 ⟨rfl, hw⟩
    obtain rfl := hw.symm
    clear hw
    go_wp2_with fail
    refine HA.out.mono ?_
    rintro e w3 ⟨rfl, hE⟩
    have HE3 := hide hE
    clear hE hcv
    go_wp2
    go_ret
    exact ⟨rfl, Ext.trans HE2.out HE3.out⟩
  · rw [Bool.not_eq_true] at h
    rw [h] at HI ⊢
    rw [Bool.false_and]
    clear h
    go_enter Tryz.func65, Tryz.ntmps65
    go_wp2_with fail
    refine HI.out.mono ?_
    rintro e w1 ⟨rfl, hw⟩
    obtain rfl := hw.symm
    clear hw
    go_wp2
    go_ret
    exact ⟨rfl, Ext.refl _⟩

theorem nm_alt (n : Nat) (f : Nat → ByteArray) : nmB n f = (decide (0 < n) && (decide (n ≤ 4) && allB (fun i => txB (f i)) n)) := by
  unfold nmB inB
  rw [← Bool.and_assoc]
  congr 1
  by_cases h1 : 0 < n <;> by_cases h2 : n ≤ 4 <;> simp [h1, h2] <;> omega

set_option maxHeartbeats 1600000 in
theorem nameOk_any (p : Pl) (n : Nat) (f : Nat → ByteArray) (w : World) (hs : SSeg w p.ad p.b p.off n f) (hn : n ≤ 1048576) (hf : ∀ i, i < n → (f i).size ≤ 1048576) :
    Calls Tryz.prog 32 #[.slice p.ad n p.cap] w fun e w' => e = .returned (.bool (nmB n f)) ∧ Ext w w' := by
  have HA := hide (aokS_any 65 (fun _ _ => by kernel_rfl) (fun i => txB (f i)) 4 p.ad p.b p.off n p.cap _ w hs.v hn (by omega) (hide fun i hi W hW => textOk_any (f i) (hf i hi) W))
  have HV := hide (nm_alt n f)
  rw [HV.out]
  generalize (decide (n ≤ 4) && allB (fun i => txB (f i)) n) = R at *
  clear HV hs hf
  by_cases h : 0 < n
  · have h1 : (0 : Int) < (n : Int) := by omega
    rw [decide_eq_true h, Bool.true_and]
    clear h
    go_enter Tryz.func32, Tryz.ntmps32
    go_wp2_with fail
    refine HA.out.mono ?_
    rintro e w1 ⟨rfl, hE⟩
    have HE := hide hE
    clear hE
    go_wp2
    go_ret
    exact ⟨rfl, HE.out⟩
  · have h1 : ¬ (0 : Int) < (n : Int) := by omega
    rw [decide_eq_false h, Bool.false_and]
    clear h
    go_enter Tryz.func32, Tryz.ntmps32
    go_wp2
    go_ret
    exact ⟨rfl, Ext.refl _⟩

theorem tx_no1 {s : ByteArray} (h : inB (s.size : Int) 1 40 = false) : txB s = false := by unfold txB; rw [h]; rfl
theorem tx_no2 {s : ByteArray} {k : Nat} (hk : k < s.size) (h : byB (bt s k) = false) : txB s = false := by unfold txB; rw [allB_no hk h, Bool.and_false]
theorem tx_yes {s : ByteArray} (h : inB (s.size : Int) 1 40 = true) (k : ∀ j, j < s.size → byB (bt s j) = true) : txB s = true := by unfold txB; rw [h, allB_yes k]; rfl
theorem nm_no {n k : Nat} {f : Nat → ByteArray} (hk : k < n) (h : txB (f k) = false) : nmB n f = false := by unfold nmB; rw [allB_no hk h, Bool.and_false]
theorem nm_yes {n : Nat} {f : Nat → ByteArray} (h : ∀ j, j < n → txB (f j) = true) : nmB n f = inB (n : Int) 1 4 := by unfold nmB; rw [allB_yes h, Bool.and_true]

set_option maxHeartbeats 3200000 in
theorem l10Name_any (p : Pl) (n : Nat) (f : Nat → ByteArray) (w : World) (hs : SSeg w p.ad p.b p.off n f) (hn : n ≤ 1048576) (hf : ∀ i, i < n → (f i).size ≤ 1048576) :
    Calls Tryz.prog 23 #[.slice p.ad n p.cap] w fun e w' => e = .returned (.bool (nmB n f)) ∧ Ext w w' := by
  obtain ⟨a, b, off, cap⟩ := p
  dsimp only at hs ⊢
  have Hs := hide hs
  have Hf := hide hf
  have HL : Hid (∀ W, Calls Tryz.prog 22 #[.int .i64 (n : Int), .int .i64 1, .int .i64 4] W fun e w' => e = .returned (.bool (inB (n : Int) 1 4)) ∧ w' = W) := fun W => l1InB _ _ _ W
  obtain ⟨R, hR⟩ : ∃ R, R = nmB n f := ⟨_, rfl⟩
  rw [← hR]
  have HR := hide hR
  clear hs hf hR
  go_enter Tryz.func23, Tryz.ntmps23
  go_wp2
  go_loopw [3] (fun i wr => ∃ k : Nat, k ≤ n ∧ i = .int .i64 (k : Int) ∧ (∀ j, j < k → txB (f j) = true) ∧ Ext w wr) (fun i _ => n - (intOf i).toNat)
  case atStart => exact ⟨0, Nat.zero_le _, rfl, fun j hj => absurd hj (Nat.not_lt_zero _), Ext.refl _⟩
  case round =>
    obtain ⟨k, hk, rfl, hd, hE⟩ := hrel
    have HD := hide hd
    have HE := hide hE
    clear hd
    by_cases hlt : k < n
    · have hat := Hs.out.at' (by omega)
      subst hat
      have c1 := (Hs.out.of_all hE).cell k hlt
      have hkn : (k : Int) < (n : Int) := by omega
      have hsz := Hf.out k hlt
      have HX := hide (l1InB ((f k).size : Int) 1 40 wr)
      obtain ⟨s, hs⟩ : ∃ s, f k = s := ⟨_, rfl⟩
      rw [hs] at c1 hsz HX
      have Hk := hide hs
      clear hE hs
      obtain ⟨q, hq⟩ : ∃ q, inB (s.size : Int) 1 40 = q := ⟨_, rfl⟩
      rw [hq] at HX
      have Hq := hide hq
      clear hq
      go_wp2_with fail
      refine HX.out.mono ?_
      rintro e w1 ⟨rfl, hw⟩
      obtain rfl := hw.symm
      clear hw HX
      cases q
      · go_wp2
        go_ret
        exact ⟨ret_bool (by rw [HR.out, nm_no hlt (by rw [Hk.out]; exact tx_no1 Hq.out)]), HE.out⟩
      · go_wp2
        go_loopw [4] (fun i wr2 => ∃ j : Nat, j ≤ s.size ∧ i = .int .i64 (j : Int) ∧ (∀ m, m < j → byB (bt s m) = true) ∧ wr2 = wr) (fun i _ => s.size - (intOf i).toNat)
        case atStart => exact ⟨0, Nat.zero_le _, rfl, fun j hj => absurd hj (Nat.not_lt_zero _), rfl⟩
        case round =>
          obtain ⟨j, hj, rfl, hd, hw⟩ := hrel
          obtain rfl := hw.symm
          have HD2 := hide hd
          clear hd hw
          by_cases hjl : j < s.size
          · have hjn : (j : Int) < (s.size : Int) := by omega
            have hbt := bt_get s j hjl
            have hb2 := bt_lt s j
            have HY := hide (l1InB (bt s j : Int) 32 126 wr)
            obtain ⟨y, hy⟩ : ∃ y, inB (bt s j : Int) 32 126 = y := ⟨_, rfl⟩
            rw [hy] at HY
            have Hy : Hid (byB (bt s j) = y) := hy
            clear hy
            generalize bt s j = B at HY hbt hb2
            go_wp2_with fail
            refine HY.out.mono ?_
            rintro e w1 ⟨rfl, hw⟩
            obtain rfl := hw.symm
            clear hw HY
            cases y
            · go_wp2
              go_ret
              exact ⟨ret_bool (by rw [HR.out, nm_no hlt (by rw [Hk.out]; exact tx_no2 hjl Hy.out)]), HE.out⟩
            · go_wp2
              go_roundw
              case rel => exact ⟨j + 1, by omega, by go_num, fun m hm => by
                            by_cases e : m = j
                            · subst e; exact Hy.out
                            · exact HD2.out m (by omega), trivial⟩
              case measure => simp [intOf]; omega
          · obtain rfl : j = s.size := by omega
            go_wp2
            go_roundw
            case rel => exact ⟨k + 1, by omega, by go_num, fun m hm => by
                          by_cases e : m = k
                          · subst e; rw [Hk.out]; exact tx_yes Hq.out HD2.out
                          · exact HD.out m (by omega), HE.out⟩
            case measure => simp [intOf]; omega
    · obtain rfl : k = n := by omega
      have HLx := hide (HL.out wr)
      have Hn : Hid (R = inB (k : Int) 1 4) := hide (by rw [HR.out, nm_yes HD.out])
      generalize inB (k : Int) 1 4 = Q at HLx Hn
      clear hE HL
      go_wp2_with fail
      refine HLx.out.mono ?_
      rintro e w1 ⟨rfl, hw⟩
      obtain rfl := hw.symm
      clear hw
      go_wp2
      go_ret
      exact ⟨ret_bool (by rw [Hn.out]), HE.out⟩

/-- At most six, each of them so. -/
def lsB (p : Nat → Bool) (n : Nat) : Bool := decide (n ≤ 6) && allB p n

set_option maxHeartbeats 3200000 in
theorem l10Hosts_any (pat : Bool) (P : ByteArray → Bool) (p : Pl) (n : Nat) (f : Nat → ByteArray) (w : World) (hs : SSeg w p.ad p.b p.off n f) (hn : n ≤ 1048576)
    (HA : Hid (pat = true → ∀ i, i < n → ∀ W, Calls Tryz.prog 92 #[.string (f i)] W fun e w' => e = .returned (.bool (P (f i))) ∧ Ext W w'))
    (HB : Hid (pat = false → ∀ i, i < n → ∀ W, Calls Tryz.prog 93 #[.string (f i)] W fun e w' => e = .returned (.bool (P (f i))) ∧ Ext W w')) :
    Calls Tryz.prog 56 #[.slice p.ad n p.cap, .bool pat] w fun e w' => e = .returned (.bool (lsB (fun i => P (f i)) n)) ∧ Ext w w' := by
  obtain ⟨a, b, off, cap⟩ := p
  dsimp only at hs ⊢
  have Hs := hide hs
  obtain ⟨R, hR⟩ : ∃ R, R = lsB (fun i => P (f i)) n := ⟨_, rfl⟩
  rw [← hR]
  have HR := hide hR
  clear hs hR
  go_enter Tryz.func56, Tryz.ntmps56
  go_wp2
  go_loopw [5] (fun i wr => ∃ k : Nat, k ≤ n ∧ i = .int .i64 (k : Int) ∧ (∀ j, j < k → P (f j) = true) ∧ Ext w wr) (fun i _ => n - (intOf i).toNat)
  case atStart => exact ⟨0, Nat.zero_le _, rfl, fun j hj => absurd hj (Nat.not_lt_zero _), Ext.refl _⟩
  case round =>
    obtain ⟨k, hk, rfl, hd, hE⟩ := hrel
    have HD := hide hd
    have HE := hide hE
    clear hd
    by_cases hlt : k < n
    · have hat := Hs.out.at' (by omega)
      subst hat
      have c1 := (Hs.out.of_all hE).cell k hlt
      have hkn : (k : Int) < (n : Int) := by omega
      obtain ⟨q, hq⟩ : ∃ q, P (f k) = q := ⟨_, rfl⟩
      have Hq := hide hq
      clear hE
      cases pat
      · have HX := hide (HB.out rfl k hlt wr)
        rw [hq] at HX
        clear hq HA HB
        go_wp2_with fail
        refine HX.out.mono ?_
        rintro e w1 ⟨rfl, hE1⟩
        have HE1 := hide hE1
        clear hE1 HX
        cases q
        · go_wp2
          go_ret
          exact ⟨ret_bool (by rw [HR.out]; unfold lsB; rw [allB_no hlt Hq.out, Bool.and_false]), Ext.trans HE.out HE1.out⟩
        · go_wp2
          go_roundw
          case rel => exact ⟨k + 1, by omega, by go_num, fun m hm => by
                        by_cases e : m = k
                        · subst e; exact Hq.out
                        · exact HD.out m (by omega), Ext.trans HE.out HE1.out⟩
          case measure => simp [intOf]; omega
      · have HX := hide (HA.out rfl k hlt wr)
        rw [hq] at HX
        clear hq HA HB
        go_wp2_with fail
        refine HX.out.mono ?_
        rintro e w1 ⟨rfl, hE1⟩
        have HE1 := hide hE1
        clear hE1 HX
        cases q
        · go_wp2
          go_ret
          exact ⟨ret_bool (by rw [HR.out]; unfold lsB; rw [allB_no hlt Hq.out, Bool.and_false]), Ext.trans HE.out HE1.out⟩
        · go_wp2
          go_roundw
          case rel => exact ⟨k + 1, by omega, by go_num, fun m hm => by
                        by_cases e : m = k
                        · subst e; exact Hq.out
                        · exact HD.out m (by omega), Ext.trans HE.out HE1.out⟩
          case measure => simp [intOf]; omega
    · obtain rfl : k = n := by omega
      have Hn : Hid (R = decide (k ≤ 6)) := hide (by rw [HR.out]; unfold lsB; rw [allB_yes HD.out, Bool.and_true])
      clear hE HA HB
      by_cases h6 : k ≤ 6
      · rw [decide_eq_true h6] at Hn
        have g6 : (k : Int) ≤ 6 := by omega
        clear h6
        go_wp2
        go_ret
        exact ⟨ret_bool (by rw [Hn.out] <;> simp [g6]), HE.out⟩
      · rw [decide_eq_false h6] at Hn
        have g6 : ¬ (k : Int) ≤ 6 := by omega
        clear h6
        go_wp2
        go_ret
        exact ⟨ret_bool (by rw [Hn.out] <;> simp <;> omega), HE.out⟩

def ppB (x : Int) : Bool := inB x 1 1000
theorem purposeOk_any (x : Int) (w : World) : Calls Tryz.prog 72 #[.int .i64 x] w fun e w' => e = .returned (.bool (ppB x)) ∧ Ext w w' := by
  have HX := hide (inRange_any x 1 1000 w)
  have HV : Hid (ppB x = inB x 1 1000) := rfl
  rw [HV.out]
  generalize inB x 1 1000 = R at *
  clear HV
  go_enter Tryz.func72, Tryz.ntmps72
  go_wp2_with fail
  refine HX.out.mono ?_
  rintro e w1 ⟨rfl, hw⟩
  obtain rfl := hw.symm
  go_wp2
  go_ret
  exact ⟨rfl, Ext.refl _⟩

/-- Each is greater than the one ahead. -/
def upB (f : Nat → Int) (i : Nat) : Bool := decide (i = 0) || decide (f (i - 1) < f i)
theorem up0 (f : Nat → Int) {j : Nat} (h : j < 1) : upB f j = true := by
  obtain rfl : j = 0 := (by omega)
  rfl

set_option maxHeartbeats 1600000 in
theorem isRising_any (p : Pl) (n : Nat) (f : Nat → Int) (w : World) (hs : Seg w p.ad p.b p.off n f) (hn : n ≤ 1048576) :
    Calls Tryz.prog 73 #[.slice p.ad n p.cap] w fun e w' => e = .returned (.bool (allB (upB f) n)) ∧ Ext w w' := by
  obtain ⟨a, b, off, cap⟩ := p
  dsimp only at hs ⊢
  have Hs := hide hs
  obtain ⟨R, hR⟩ : ∃ R, R = allB (upB f) n := ⟨_, rfl⟩
  rw [← hR]
  have HR := hide hR
  clear hs hR
  go_enter Tryz.func73, Tryz.ntmps73
  go_wp2
  go_loopw [3] (fun i wr => ∃ k : Nat, (k ≤ n ∨ k = 1) ∧ 1 ≤ k ∧ i = .int .i64 (k : Int) ∧ (∀ j, j < k → upB f j = true) ∧ Ext w wr) (fun i _ => n - (intOf i).toNat)
  case atStart => exact ⟨1, .inr rfl, Nat.le_refl _, rfl, fun j hj => up0 f hj, Ext.refl _⟩
  case round =>
    obtain ⟨k, hk, hk1, rfl, hd, hE⟩ := hrel
    have HD := hide hd
    have HE := hide hE
    clear hd
    by_cases hlt : k < n
    · have hat := Hs.out.at' (by omega)
      subst hat
      obtain ⟨m, rfl⟩ : ∃ m, k = m + 1 := ⟨k - 1, by omega⟩
      have c1 := (Hs.out.of_all hE).cell m (by omega)
      have c2 := (Hs.out.of_all hE).cell (m + 1) hlt
      have hkn : (m : Int) + 1 < (n : Int) := by omega
      have hkm : (m : Int) < (n : Int) := by omega
      have hw1 : wrap64 ((m : Int) + 1 - 1) = m := by unfold wrap64; omega
      have hw2 : IntKind.i64.wrap ((m : Int) + 1 - 1) = m := by rw [IntKind.wrap_i64]; omega
      have Hup : Hid (upB f (m + 1) = decide (f m < f (m + 1))) := hide (by unfold upB; simp)
      generalize f m = x at c1 Hup
      generalize f (m + 1) = y at c2 Hup
      clear hE hk hk1
      by_cases hxy : x < y
      · have hd1 : decide (y ≤ x) = false := decide_eq_false (by omega)
        rw [decide_eq_true hxy] at Hup
        clear hxy
        go_wp2
        go_quiet (fail)
        go_wp2
        go_roundw
        case rel => exact ⟨m + 1 + 1, by omega, by omega, by go_num, fun j hj => by
                      by_cases e : j = m + 1
                      · subst e; exact Hup.out
                      · exact HD.out j (by omega), below_drewN HE.out _⟩
        case measure => simp [intOf]; omega
      · have hd1 : decide (y ≤ x) = true := decide_eq_true (by omega)
        rw [decide_eq_false hxy] at Hup
        clear hxy
        go_wp2
        go_quiet (fail)
        go_wp2
        go_ret
        exact ⟨ret_bool (by rw [HR.out, allB_no hlt Hup.out]), below_drewN HE.out _⟩
    · have g : ¬ (k : Int) < (n : Int) := by omega
      have Hk := hide hk
      clear hE hk
      go_wp2
      go_ret
      exact ⟨ret_bool (by rw [HR.out, allB_yes (fun j hj => HD.out j (by omega))]), HE.out⟩

/-- What is asked of a path's length, of extensions. -/
def pathB (x : Ex) : Bool := decide (x.path = -1) || (x.ca && inB x.path 0 10)
def exB (x : Ex) : Bool := pathB x && (inB x.usage 0 7 && (lsB (fun i => patB (x.fh i)) x.nh && (lsB (fun i => fourB (x.ln i) (x.fn i)) x.nn && (lsB (fun i => hostB (x.fa i)) x.na && (lsB (fun i => hostB (x.fd i)) x.nd && (lsB (fun i => ppB (x.fp i)) x.np && allB (upB x.fp) x.np))))))

set_option maxHeartbeats 1600000 in
theorem pathOk_any (x : Ex) (m : ExPl) (w : World) : Calls Tryz.prog 66 #[.agg (exL x m).toArray] w fun e w' => e = .returned (.bool (pathB x)) ∧ Ext w w' := by
  obtain ⟨V, hV⟩ : ∃ V, w.alloc (.cells (exL x m).toArray 48) = V := ⟨_, rfl⟩
  obtain ⟨B0, hE, hl⟩ := box1 w (exL x m) 48 (w1 := V) (by rw [← hV]; exact Ext.refl _)
  have c0 := (B0 0 _ rfl).1
  have c1 := (B0 1 _ rfl).1
  have HE := hide hE
  have HX := hide (inRange_any x.path 0 10 V)
  have HV : Hid (pathB x = (decide (x.path = -1) || (x.ca && inB x.path 0 10))) := rfl
  rw [HV.out]
  clear HV B0 hE hl
  generalize inB x.path 0 10 = Q at *
  generalize x.ca = ca at *
  generalize x.path = pt at *
  by_cases h1 : pt = -1
  · have g1 : (pt == -1) = true := by simp [h1]
    rw [decide_eq_true h1, Bool.true_or]
    have H1 := hide h1
    clear h1
    go_enter Tryz.func66, Tryz.ntmps66
    go_wp2
    go_ret
    exact ⟨rfl, HE.out⟩
  · have g1 : (pt == -1) = false := by simp [h1]
    rw [decide_eq_false h1, Bool.false_or]
    have H1 := hide h1
    clear h1
    cases ca
    · go_enter Tryz.func66, Tryz.ntmps66
      go_wp2
      go_ret
      exact ⟨rfl, HE.out⟩
    · go_enter Tryz.func66, Tryz.ntmps66
      go_wp2_with fail
      refine HX.out.mono ?_
      rintro e w1 ⟨rfl, hw⟩
      obtain rfl := hw.symm
      clear hw
      go_wp2
      go_ret
      exact ⟨rfl, HE.out⟩
end

end Go.Proofs.YtigjjkondbdgjaaGreatDoor
