/- Walks: the program's allOk over lists whose elements are one cell each (written by mkaok.py). Walks: Lower of both. -/
import Derived.Handy
import Derived.Laws.EntriesVeiled
import Derived.Test.YtollgoadgjlccaaGreatDoorCz02
import Derived.Test.YtollgoadgjlccaaGreatDoorCz04
namespace Go.Proofs.YtollgoadgjlccaaGreatDoor

section
set_option linter.unusedVariables false
set_option linter.unusedSimpArgs false
set_option maxRecDepth 100000

open Go.RowKit

/-- A list whose elements are one cell each. -/
structure VSeg (w : World) (a : Option Addr) (b off n : Nat) (v : Nat → Value) : Prop where
  at' : 0 < n → a = some ⟨b, off, none⟩
  cell : ∀ i, i < n → w.cell? ⟨b, off + i, none⟩ = some (v i)

theorem VSeg.lt {w : World} {a : Option Addr} {b off n : Nat} {v : Nat → Value} (h : VSeg w a b off n v) (hn : 0 < n) : b < w.heap.size := World.block_lt_of_cell? _ _ (h.cell 0 hn)

theorem VSeg.of_all {w w' : World} {a : Option Addr} {b off n : Nat} {v : Nat → Value} (h : VSeg w a b off n v) (e : Ext w w') : VSeg w' a b off n v :=
  ⟨h.at', fun i hi => (Below.cell e (p := ⟨b, off + i, none⟩) (h.lt (by omega))).trans (h.cell i hi)⟩

theorem SSeg.v {w : World} {a : Option Addr} {b off n : Nat} {f : Nat → ByteArray} (h : SSeg w a b off n f) : VSeg w a b off n (fun i => .string (f i)) := ⟨h.at', h.cell⟩

theorem Seg.v {w : World} {a : Option Addr} {b off n : Nat} {f : Nat → Int} (h : Seg w a b off n f) : VSeg w a b off n (fun i => .int .i64 (f i)) := ⟨h.at', h.cell⟩

theorem BSeg.v {w : World} {a : Option Addr} {b off n : Nat} {f : Nat → Int} (h : BSeg w a b off n f) : VSeg w a b off n (fun i => .int .u8 (f i)) := ⟨h.at', h.cell⟩

theorem NSeg.v {w : World} {p : Plc} {q : Nat → Plc} {n : Nat} {ln : Nat → Nat} {f : Nat → Nat → Int} (h : NSeg w p q n ln f) : VSeg w p.ad p.b p.off n (fun i => .slice (q i).ad (ln i) (q i).cap) := ⟨h.at', h.cell⟩

/-- What slices.IndexFunc answers where R tells whether there is one. -/
def IdxQ (R : Bool) (e : Ending) : Prop := ∃ z : Int, e = .returned (.int .i64 z) ∧ decide (0 ≤ z) = R

set_option maxHeartbeats 1600000 in
theorem idxS_any (F : Nat) (c : Value) (hF : ∀ (args : Array Value) (w : World), (callFunc F args).run Tryz.prog w = .ok (.enter F args) w) (p : Nat → Bool) (a : Option Addr) (b off n cap : Nat) (v : Nat → Value) (w : World) (hs : VSeg w a b off n v) (hn : n ≤ 1048576)
    (HC : Hid (∀ i, i < n → ∀ W, Ext w W → Calls Tryz.prog F #[v i, c] W fun e w' => e = .returned (.bool (p i)) ∧ Ext W w')) :
    Calls Tryz.prog 201 #[.slice a n cap, .func (.func F) #[] #[c]] w fun e w' => IdxQ (anyB p n) e ∧ Ext w w' := by
  have Hs := hide hs
  obtain ⟨R, hR⟩ : ∃ R, R = anyB p n := ⟨_, rfl⟩
  rw [← hR]
  have HR := hide hR
  clear hs hR
  go_enter Tryz.func201, Tryz.ntmps201
  go_wp2
  go_loopw [8] (fun i wr => ∃ k : Nat, k ≤ n ∧ i = .int .i64 (k : Int) ∧ (∀ j, j < k → p j = false) ∧ Ext w wr) (fun i _ => n - (intOf i).toNat)
  case atStart => exact ⟨0, Nat.zero_le _, rfl, fun j hj => absurd hj (Nat.not_lt_zero _), Ext.refl _⟩
  case round =>
    obtain ⟨k, hk, rfl, hd, hE⟩ := hrel
    have HD := hide hd
    have HE := hide hE
    by_cases hlt : k < n
    · obtain rfl := Hs.out.at' (by omega)
      have c1 := (Hs.out.of_all hE).cell k hlt
      have hkn : (k : Int) < (n : Int) := by omega
      have HX := hide (HC.out k hlt _ hE)
      obtain ⟨q, hq⟩ : ∃ q, p k = q := ⟨_, rfl⟩
      rw [hq] at HX
      have Hq := hide hq
      clear hd hE hq
      go_wp2_with fail
      refine HX.out.mono ?_
      rintro e w1 ⟨rfl, hE1⟩
      have HE1 := hide hE1
      clear hE1
      cases q
      · go_wp2
        go_roundw
        case rel => exact ⟨k + 1, by omega, by go_num, fun j hj => by
                      by_cases e : j = k
                      · subst e; exact Hq.out
                      · exact HD.out j (by omega), Ext.trans HE.out HE1.out⟩
        case measure => simp [intOf]; omega
      · go_wp2
        go_ret
        exact ⟨⟨_, rfl, by rw [HR.out, anyB_yes hlt Hq.out]; exact decide_eq_true (Int.natCast_nonneg _)⟩, Ext.trans HE.out HE1.out⟩
    · obtain rfl : k = n := by omega
      clear hd hE
      go_wp2
      go_ret
      exact ⟨⟨_, rfl, by rw [HR.out, anyB_no HD.out]; rfl⟩, HE.out⟩

set_option maxHeartbeats 800000 in
theorem conS_any (F : Nat) (c : Value) (hF : ∀ (args : Array Value) (w : World), (callFunc F args).run Tryz.prog w = .ok (.enter F args) w) (p : Nat → Bool) (a : Option Addr) (b off n cap : Nat) (v : Nat → Value) (w : World) (hs : VSeg w a b off n v) (hn : n ≤ 1048576)
    (HC : Hid (∀ i, i < n → ∀ W, Ext w W → Calls Tryz.prog F #[v i, c] W fun e w' => e = .returned (.bool (p i)) ∧ Ext W w')) :
    Calls Tryz.prog 141 #[.slice a n cap, .func (.func F) #[] #[c]] w fun e w' => e = .returned (.bool (anyB p n)) ∧ Ext w w' := by
  have HX := hide (idxS_any F c hF p a b off n cap v w hs hn HC)
  clear hs HC hF
  obtain ⟨R, hR⟩ : ∃ R, anyB p n = R := ⟨_, rfl⟩
  rw [hR] at HX ⊢
  clear hR
  go_enter Tryz.func141, Tryz.ntmps141
  go_wp2_with fail
  refine HX.out.mono ?_
  rintro e w1 ⟨⟨z, rfl, hz⟩, hE1⟩
  have HE1 := hide hE1
  clear hE1
  have Hz := hide hz
  clear hz
  go_wp2
  go_ret
  exact ⟨ret_bool Hz.out, HE1.out⟩

set_option maxHeartbeats 800000 in
theorem aokS1_any (G B : Nat) (hG : ∀ (args : Array Value) (w : World), (callFunc G args).run Tryz.prog w = .ok (.enter G args) w) (r : Bool) (v : Value) (w : World) (hc : w.cell? ⟨B, 0, none⟩ = some (.func (.func G) #[] #[]))
    (HC : Hid (Calls Tryz.prog G #[v] w fun e w' => e = .returned (.bool r) ∧ Ext w w')) :
    Calls Tryz.prog 140 #[v, .pointer (some ⟨B, 0, none⟩)] w fun e w' => e = .returned (.bool (!r)) ∧ Ext w w' := by
  go_enter Tryz.func140, Tryz.ntmps140
  go_wp2_with fail
  refine HC.out.mono ?_
  rintro e w1 ⟨rfl, hE1⟩
  have HE1 := hide hE1
  clear hE1
  go_wp2
  go_ret
  exact ⟨rfl, HE1.out⟩

set_option maxHeartbeats 1600000 in
theorem aokS_any (G : Nat) (hG : ∀ (args : Array Value) (w : World), (callFunc G args).run Tryz.prog w = .ok (.enter G args) w) (p : Nat → Bool) (most : Nat) (a : Option Addr) (b off n cap : Nat) (v : Nat → Value) (w : World) (hs : VSeg w a b off n v) (hn : n ≤ 1048576) (hm : most ≤ 1048576)
    (HC : Hid (∀ i, i < n → ∀ W, Ext w W → Calls Tryz.prog G #[v i] W fun e w' => e = .returned (.bool (p i)) ∧ Ext W w')) :
    Calls Tryz.prog 85 #[.slice a n cap, .int .i64 (most : Int), .func (.func G) #[] #[]] w fun e w' => e = .returned (.bool (decide (n ≤ most) && allB p n)) ∧ Ext w w' := by
  obtain ⟨V, hV⟩ : ∃ V, w.alloc (.cells #[.func (.func G) #[] #[]] 112) = V := ⟨_, rfl⟩
  obtain ⟨B0, hE, hl⟩ := box1 w [.func (.func G) #[] #[]] 112 (w1 := V) (by rw [← hV]; exact Ext.refl _)
  have HB := hide B0
  have HE := hide hE
  have HX := hide (conS_any 140 (.pointer (some ⟨w.heap.size, 0, none⟩)) (fun _ _ => by kernel_rfl) (fun i => !p i) a b off n cap v V (hs.of_all hE) hn
    (hide fun i hi W hW => aokS1_any G w.heap.size hG (p i) (v i) W ((Blk.ext HB.out hW (by omega)) 0 _ rfl).1 (hide (HC.out i hi W (Ext.trans hE hW)))))
  have HR : Hid (allB p n = !anyB (fun i => !p i) n) := rfl
  rw [HR.out]
  generalize anyB (fun i => !p i) n = R at HX ⊢
  clear B0 hE hs hl HR HC hG
  by_cases h : n ≤ most
  · have h1 : (n : Int) ≤ (most : Int) := by omega
    rw [decide_eq_true h, Bool.true_and]
    clear h
    go_enter Tryz.func85, Tryz.ntmps85
    go_wp2_with fail
    refine HX.out.mono ?_
    rintro e w1 ⟨rfl, hE1⟩
    have HE1 := hide hE1
    clear hE1
    go_wp2
    go_ret
    exact ⟨rfl, Ext.trans HE.out HE1.out⟩
  · have h1 : ¬ (n : Int) ≤ (most : Int) := by omega
    rw [decide_eq_false h, Bool.false_and]
    clear h
    go_enter Tryz.func85, Tryz.ntmps85
    go_wp2
    go_ret
    exact ⟨rfl, HE.out⟩

set_option maxHeartbeats 1600000 in
theorem idxN_any (F : Nat) (c : Value) (hF : ∀ (args : Array Value) (w : World), (callFunc F args).run Tryz.prog w = .ok (.enter F args) w) (p : Nat → Bool) (a : Option Addr) (b off n cap : Nat) (v : Nat → Value) (w : World) (hs : VSeg w a b off n v) (hn : n ≤ 1048576)
    (HC : Hid (∀ i, i < n → ∀ W, Ext w W → Calls Tryz.prog F #[v i, c] W fun e w' => e = .returned (.bool (p i)) ∧ Ext W w')) :
    Calls Tryz.prog 205 #[.slice a n cap, .func (.func F) #[] #[c]] w fun e w' => IdxQ (anyB p n) e ∧ Ext w w' := by
  have Hs := hide hs
  obtain ⟨R, hR⟩ : ∃ R, R = anyB p n := ⟨_, rfl⟩
  rw [← hR]
  have HR := hide hR
  clear hs hR
  go_enter Tryz.func205, Tryz.ntmps205
  go_wp2
  go_loopw [8] (fun i wr => ∃ k : Nat, k ≤ n ∧ i = .int .i64 (k : Int) ∧ (∀ j, j < k → p j = false) ∧ Ext w wr) (fun i _ => n - (intOf i).toNat)
  case atStart => exact ⟨0, Nat.zero_le _, rfl, fun j hj => absurd hj (Nat.not_lt_zero _), Ext.refl _⟩
  case round =>
    obtain ⟨k, hk, rfl, hd, hE⟩ := hrel
    have HD := hide hd
    have HE := hide hE
    by_cases hlt : k < n
    · obtain rfl := Hs.out.at' (by omega)
      have c1 := (Hs.out.of_all hE).cell k hlt
      have hkn : (k : Int) < (n : Int) := by omega
      have HX := hide (HC.out k hlt _ hE)
      obtain ⟨q, hq⟩ : ∃ q, p k = q := ⟨_, rfl⟩
      rw [hq] at HX
      have Hq := hide hq
      clear hd hE hq
      go_wp2_with fail
      refine HX.out.mono ?_
      rintro e w1 ⟨rfl, hE1⟩
      have HE1 := hide hE1
      clear hE1
      cases q
      · go_wp2
        go_roundw
        case rel => exact ⟨k + 1, by omega, by go_num, fun j hj => by
                      by_cases e : j = k
                      · subst e; exact Hq.out
                      · exact HD.out j (by omega), Ext.trans HE.out HE1.out⟩
        case measure => simp [intOf]; omega
      · go_wp2
        go_ret
        exact ⟨⟨_, rfl, by rw [HR.out, anyB_yes hlt Hq.out]; exact decide_eq_true (Int.natCast_nonneg _)⟩, Ext.trans HE.out HE1.out⟩
    · obtain rfl : k = n := by omega
      clear hd hE
      go_wp2
      go_ret
      exact ⟨⟨_, rfl, by rw [HR.out, anyB_no HD.out]; rfl⟩, HE.out⟩

set_option maxHeartbeats 800000 in
theorem conN_any (F : Nat) (c : Value) (hF : ∀ (args : Array Value) (w : World), (callFunc F args).run Tryz.prog w = .ok (.enter F args) w) (p : Nat → Bool) (a : Option Addr) (b off n cap : Nat) (v : Nat → Value) (w : World) (hs : VSeg w a b off n v) (hn : n ≤ 1048576)
    (HC : Hid (∀ i, i < n → ∀ W, Ext w W → Calls Tryz.prog F #[v i, c] W fun e w' => e = .returned (.bool (p i)) ∧ Ext W w')) :
    Calls Tryz.prog 147 #[.slice a n cap, .func (.func F) #[] #[c]] w fun e w' => e = .returned (.bool (anyB p n)) ∧ Ext w w' := by
  have HX := hide (idxN_any F c hF p a b off n cap v w hs hn HC)
  clear hs HC hF
  obtain ⟨R, hR⟩ : ∃ R, anyB p n = R := ⟨_, rfl⟩
  rw [hR] at HX ⊢
  clear hR
  go_enter Tryz.func147, Tryz.ntmps147
  go_wp2_with fail
  refine HX.out.mono ?_
  rintro e w1 ⟨⟨z, rfl, hz⟩, hE1⟩
  have HE1 := hide hE1
  clear hE1
  have Hz := hide hz
  clear hz
  go_wp2
  go_ret
  exact ⟨ret_bool Hz.out, HE1.out⟩

set_option maxHeartbeats 800000 in
theorem aokN1_any (G B : Nat) (hG : ∀ (args : Array Value) (w : World), (callFunc G args).run Tryz.prog w = .ok (.enter G args) w) (r : Bool) (v : Value) (w : World) (hc : w.cell? ⟨B, 0, none⟩ = some (.func (.func G) #[] #[]))
    (HC : Hid (Calls Tryz.prog G #[v] w fun e w' => e = .returned (.bool r) ∧ Ext w w')) :
    Calls Tryz.prog 146 #[v, .pointer (some ⟨B, 0, none⟩)] w fun e w' => e = .returned (.bool (!r)) ∧ Ext w w' := by
  go_enter Tryz.func146, Tryz.ntmps146
  go_wp2_with fail
  refine HC.out.mono ?_
  rintro e w1 ⟨rfl, hE1⟩
  have HE1 := hide hE1
  clear hE1
  go_wp2
  go_ret
  exact ⟨rfl, HE1.out⟩

set_option maxHeartbeats 1600000 in
theorem aokN_any (G : Nat) (hG : ∀ (args : Array Value) (w : World), (callFunc G args).run Tryz.prog w = .ok (.enter G args) w) (p : Nat → Bool) (most : Nat) (a : Option Addr) (b off n cap : Nat) (v : Nat → Value) (w : World) (hs : VSeg w a b off n v) (hn : n ≤ 1048576) (hm : most ≤ 1048576)
    (HC : Hid (∀ i, i < n → ∀ W, Ext w W → Calls Tryz.prog G #[v i] W fun e w' => e = .returned (.bool (p i)) ∧ Ext W w')) :
    Calls Tryz.prog 90 #[.slice a n cap, .int .i64 (most : Int), .func (.func G) #[] #[]] w fun e w' => e = .returned (.bool (decide (n ≤ most) && allB p n)) ∧ Ext w w' := by
  obtain ⟨V, hV⟩ : ∃ V, w.alloc (.cells #[.func (.func G) #[] #[]] 99) = V := ⟨_, rfl⟩
  obtain ⟨B0, hE, hl⟩ := box1 w [.func (.func G) #[] #[]] 99 (w1 := V) (by rw [← hV]; exact Ext.refl _)
  have HB := hide B0
  have HE := hide hE
  have HX := hide (conN_any 146 (.pointer (some ⟨w.heap.size, 0, none⟩)) (fun _ _ => by kernel_rfl) (fun i => !p i) a b off n cap v V (hs.of_all hE) hn
    (hide fun i hi W hW => aokN1_any G w.heap.size hG (p i) (v i) W ((Blk.ext HB.out hW (by omega)) 0 _ rfl).1 (hide (HC.out i hi W (Ext.trans hE hW)))))
  have HR : Hid (allB p n = !anyB (fun i => !p i) n) := rfl
  rw [HR.out]
  generalize anyB (fun i => !p i) n = R at HX ⊢
  clear B0 hE hs hl HR HC hG
  by_cases h : n ≤ most
  · have h1 : (n : Int) ≤ (most : Int) := by omega
    rw [decide_eq_true h, Bool.true_and]
    clear h
    go_enter Tryz.func90, Tryz.ntmps90
    go_wp2_with fail
    refine HX.out.mono ?_
    rintro e w1 ⟨rfl, hE1⟩
    have HE1 := hide hE1
    clear hE1
    go_wp2
    go_ret
    exact ⟨rfl, Ext.trans HE.out HE1.out⟩
  · have h1 : ¬ (n : Int) ≤ (most : Int) := by omega
    rw [decide_eq_false h, Bool.false_and]
    clear h
    go_enter Tryz.func90, Tryz.ntmps90
    go_wp2
    go_ret
    exact ⟨rfl, HE.out⟩

set_option maxHeartbeats 1600000 in
theorem idxI_any (F : Nat) (c : Value) (hF : ∀ (args : Array Value) (w : World), (callFunc F args).run Tryz.prog w = .ok (.enter F args) w) (p : Nat → Bool) (a : Option Addr) (b off n cap : Nat) (v : Nat → Value) (w : World) (hs : VSeg w a b off n v) (hn : n ≤ 1048576)
    (HC : Hid (∀ i, i < n → ∀ W, Ext w W → Calls Tryz.prog F #[v i, c] W fun e w' => e = .returned (.bool (p i)) ∧ Ext W w')) :
    Calls Tryz.prog 208 #[.slice a n cap, .func (.func F) #[] #[c]] w fun e w' => IdxQ (anyB p n) e ∧ Ext w w' := by
  have Hs := hide hs
  obtain ⟨R, hR⟩ : ∃ R, R = anyB p n := ⟨_, rfl⟩
  rw [← hR]
  have HR := hide hR
  clear hs hR
  go_enter Tryz.func208, Tryz.ntmps208
  go_wp2
  go_loopw [8] (fun i wr => ∃ k : Nat, k ≤ n ∧ i = .int .i64 (k : Int) ∧ (∀ j, j < k → p j = false) ∧ Ext w wr) (fun i _ => n - (intOf i).toNat)
  case atStart => exact ⟨0, Nat.zero_le _, rfl, fun j hj => absurd hj (Nat.not_lt_zero _), Ext.refl _⟩
  case round =>
    obtain ⟨k, hk, rfl, hd, hE⟩ := hrel
    have HD := hide hd
    have HE := hide hE
    by_cases hlt : k < n
    · obtain rfl := Hs.out.at' (by omega)
      have c1 := (Hs.out.of_all hE).cell k hlt
      have hkn : (k : Int) < (n : Int) := by omega
      have HX := hide (HC.out k hlt _ hE)
      obtain ⟨q, hq⟩ : ∃ q, p k = q := ⟨_, rfl⟩
      rw [hq] at HX
      have Hq := hide hq
      clear hd hE hq
      go_wp2_with fail
      refine HX.out.mono ?_
      rintro e w1 ⟨rfl, hE1⟩
      have HE1 := hide hE1
      clear hE1
      cases q
      · go_wp2
        go_roundw
        case rel => exact ⟨k + 1, by omega, by go_num, fun j hj => by
                      by_cases e : j = k
                      · subst e; exact Hq.out
                      · exact HD.out j (by omega), Ext.trans HE.out HE1.out⟩
        case measure => simp [intOf]; omega
      · go_wp2
        go_ret
        exact ⟨⟨_, rfl, by rw [HR.out, anyB_yes hlt Hq.out]; exact decide_eq_true (Int.natCast_nonneg _)⟩, Ext.trans HE.out HE1.out⟩
    · obtain rfl : k = n := by omega
      clear hd hE
      go_wp2
      go_ret
      exact ⟨⟨_, rfl, by rw [HR.out, anyB_no HD.out]; rfl⟩, HE.out⟩

set_option maxHeartbeats 800000 in
theorem conI_any (F : Nat) (c : Value) (hF : ∀ (args : Array Value) (w : World), (callFunc F args).run Tryz.prog w = .ok (.enter F args) w) (p : Nat → Bool) (a : Option Addr) (b off n cap : Nat) (v : Nat → Value) (w : World) (hs : VSeg w a b off n v) (hn : n ≤ 1048576)
    (HC : Hid (∀ i, i < n → ∀ W, Ext w W → Calls Tryz.prog F #[v i, c] W fun e w' => e = .returned (.bool (p i)) ∧ Ext W w')) :
    Calls Tryz.prog 151 #[.slice a n cap, .func (.func F) #[] #[c]] w fun e w' => e = .returned (.bool (anyB p n)) ∧ Ext w w' := by
  have HX := hide (idxI_any F c hF p a b off n cap v w hs hn HC)
  clear hs HC hF
  obtain ⟨R, hR⟩ : ∃ R, anyB p n = R := ⟨_, rfl⟩
  rw [hR] at HX ⊢
  clear hR
  go_enter Tryz.func151, Tryz.ntmps151
  go_wp2_with fail
  refine HX.out.mono ?_
  rintro e w1 ⟨⟨z, rfl, hz⟩, hE1⟩
  have HE1 := hide hE1
  clear hE1
  have Hz := hide hz
  clear hz
  go_wp2
  go_ret
  exact ⟨ret_bool Hz.out, HE1.out⟩

set_option maxHeartbeats 800000 in
theorem aokI1_any (G B : Nat) (hG : ∀ (args : Array Value) (w : World), (callFunc G args).run Tryz.prog w = .ok (.enter G args) w) (r : Bool) (v : Value) (w : World) (hc : w.cell? ⟨B, 0, none⟩ = some (.func (.func G) #[] #[]))
    (HC : Hid (Calls Tryz.prog G #[v] w fun e w' => e = .returned (.bool r) ∧ Ext w w')) :
    Calls Tryz.prog 150 #[v, .pointer (some ⟨B, 0, none⟩)] w fun e w' => e = .returned (.bool (!r)) ∧ Ext w w' := by
  go_enter Tryz.func150, Tryz.ntmps150
  go_wp2_with fail
  refine HC.out.mono ?_
  rintro e w1 ⟨rfl, hE1⟩
  have HE1 := hide hE1
  clear hE1
  go_wp2
  go_ret
  exact ⟨rfl, HE1.out⟩

set_option maxHeartbeats 1600000 in
theorem aokI_any (G : Nat) (hG : ∀ (args : Array Value) (w : World), (callFunc G args).run Tryz.prog w = .ok (.enter G args) w) (p : Nat → Bool) (most : Nat) (a : Option Addr) (b off n cap : Nat) (v : Nat → Value) (w : World) (hs : VSeg w a b off n v) (hn : n ≤ 1048576) (hm : most ≤ 1048576)
    (HC : Hid (∀ i, i < n → ∀ W, Ext w W → Calls Tryz.prog G #[v i] W fun e w' => e = .returned (.bool (p i)) ∧ Ext W w')) :
    Calls Tryz.prog 93 #[.slice a n cap, .int .i64 (most : Int), .func (.func G) #[] #[]] w fun e w' => e = .returned (.bool (decide (n ≤ most) && allB p n)) ∧ Ext w w' := by
  obtain ⟨V, hV⟩ : ∃ V, w.alloc (.cells #[.func (.func G) #[] #[]] 71) = V := ⟨_, rfl⟩
  obtain ⟨B0, hE, hl⟩ := box1 w [.func (.func G) #[] #[]] 71 (w1 := V) (by rw [← hV]; exact Ext.refl _)
  have HB := hide B0
  have HE := hide hE
  have HX := hide (conI_any 150 (.pointer (some ⟨w.heap.size, 0, none⟩)) (fun _ _ => by kernel_rfl) (fun i => !p i) a b off n cap v V (hs.of_all hE) hn
    (hide fun i hi W hW => aokI1_any G w.heap.size hG (p i) (v i) W ((Blk.ext HB.out hW (by omega)) 0 _ rfl).1 (hide (HC.out i hi W (Ext.trans hE hW)))))
  have HR : Hid (allB p n = !anyB (fun i => !p i) n) := rfl
  rw [HR.out]
  generalize anyB (fun i => !p i) n = R at HX ⊢
  clear B0 hE hs hl HR HC hG
  by_cases h : n ≤ most
  · have h1 : (n : Int) ≤ (most : Int) := by omega
    rw [decide_eq_true h, Bool.true_and]
    clear h
    go_enter Tryz.func93, Tryz.ntmps93
    go_wp2_with fail
    refine HX.out.mono ?_
    rintro e w1 ⟨rfl, hE1⟩
    have HE1 := hide hE1
    clear hE1
    go_wp2
    go_ret
    exact ⟨rfl, Ext.trans HE.out HE1.out⟩
  · have h1 : ¬ (n : Int) ≤ (most : Int) := by omega
    rw [decide_eq_false h, Bool.false_and]
    clear h
    go_enter Tryz.func93, Tryz.ntmps93
    go_wp2
    go_ret
    exact ⟨rfl, HE.out⟩

set_option maxHeartbeats 1600000 in
theorem idxB_any (F : Nat) (c : Value) (hF : ∀ (args : Array Value) (w : World), (callFunc F args).run Tryz.prog w = .ok (.enter F args) w) (p : Nat → Bool) (a : Option Addr) (b off n cap : Nat) (v : Nat → Value) (w : World) (hs : VSeg w a b off n v) (hn : n ≤ 1048576)
    (HC : Hid (∀ i, i < n → ∀ W, Ext w W → Calls Tryz.prog F #[v i, c] W fun e w' => e = .returned (.bool (p i)) ∧ Ext W w')) :
    Calls Tryz.prog 250 #[.slice a n cap, .func (.func F) #[] #[c]] w fun e w' => IdxQ (anyB p n) e ∧ Ext w w' := by
  have Hs := hide hs
  obtain ⟨R, hR⟩ : ∃ R, R = anyB p n := ⟨_, rfl⟩
  rw [← hR]
  have HR := hide hR
  clear hs hR
  go_enter Tryz.func250, Tryz.ntmps250
  go_wp2
  go_loopw [8] (fun i wr => ∃ k : Nat, k ≤ n ∧ i = .int .i64 (k : Int) ∧ (∀ j, j < k → p j = false) ∧ Ext w wr) (fun i _ => n - (intOf i).toNat)
  case atStart => exact ⟨0, Nat.zero_le _, rfl, fun j hj => absurd hj (Nat.not_lt_zero _), Ext.refl _⟩
  case round =>
    obtain ⟨k, hk, rfl, hd, hE⟩ := hrel
    have HD := hide hd
    have HE := hide hE
    by_cases hlt : k < n
    · obtain rfl := Hs.out.at' (by omega)
      have c1 := (Hs.out.of_all hE).cell k hlt
      have hkn : (k : Int) < (n : Int) := by omega
      have HX := hide (HC.out k hlt _ hE)
      obtain ⟨q, hq⟩ : ∃ q, p k = q := ⟨_, rfl⟩
      rw [hq] at HX
      have Hq := hide hq
      clear hd hE hq
      go_wp2_with fail
      refine HX.out.mono ?_
      rintro e w1 ⟨rfl, hE1⟩
      have HE1 := hide hE1
      clear hE1
      cases q
      · go_wp2
        go_roundw
        case rel => exact ⟨k + 1, by omega, by go_num, fun j hj => by
                      by_cases e : j = k
                      · subst e; exact Hq.out
                      · exact HD.out j (by omega), Ext.trans HE.out HE1.out⟩
        case measure => simp [intOf]; omega
      · go_wp2
        go_ret
        exact ⟨⟨_, rfl, by rw [HR.out, anyB_yes hlt Hq.out]; exact decide_eq_true (Int.natCast_nonneg _)⟩, Ext.trans HE.out HE1.out⟩
    · obtain rfl : k = n := by omega
      clear hd hE
      go_wp2
      go_ret
      exact ⟨⟨_, rfl, by rw [HR.out, anyB_no HD.out]; rfl⟩, HE.out⟩

set_option maxHeartbeats 800000 in
theorem conB_any (F : Nat) (c : Value) (hF : ∀ (args : Array Value) (w : World), (callFunc F args).run Tryz.prog w = .ok (.enter F args) w) (p : Nat → Bool) (a : Option Addr) (b off n cap : Nat) (v : Nat → Value) (w : World) (hs : VSeg w a b off n v) (hn : n ≤ 1048576)
    (HC : Hid (∀ i, i < n → ∀ W, Ext w W → Calls Tryz.prog F #[v i, c] W fun e w' => e = .returned (.bool (p i)) ∧ Ext W w')) :
    Calls Tryz.prog 203 #[.slice a n cap, .func (.func F) #[] #[c]] w fun e w' => e = .returned (.bool (anyB p n)) ∧ Ext w w' := by
  have HX := hide (idxB_any F c hF p a b off n cap v w hs hn HC)
  clear hs HC hF
  obtain ⟨R, hR⟩ : ∃ R, anyB p n = R := ⟨_, rfl⟩
  rw [hR] at HX ⊢
  clear hR
  go_enter Tryz.func203, Tryz.ntmps203
  go_wp2_with fail
  refine HX.out.mono ?_
  rintro e w1 ⟨⟨z, rfl, hz⟩, hE1⟩
  have HE1 := hide hE1
  clear hE1
  have Hz := hide hz
  clear hz
  go_wp2
  go_ret
  exact ⟨ret_bool Hz.out, HE1.out⟩

set_option maxHeartbeats 800000 in
theorem aokB1_any (G B : Nat) (hG : ∀ (args : Array Value) (w : World), (callFunc G args).run Tryz.prog w = .ok (.enter G args) w) (r : Bool) (v : Value) (w : World) (hc : w.cell? ⟨B, 0, none⟩ = some (.func (.func G) #[] #[]))
    (HC : Hid (Calls Tryz.prog G #[v] w fun e w' => e = .returned (.bool r) ∧ Ext w w')) :
    Calls Tryz.prog 202 #[v, .pointer (some ⟨B, 0, none⟩)] w fun e w' => e = .returned (.bool (!r)) ∧ Ext w w' := by
  go_enter Tryz.func202, Tryz.ntmps202
  go_wp2_with fail
  refine HC.out.mono ?_
  rintro e w1 ⟨rfl, hE1⟩
  have HE1 := hide hE1
  clear hE1
  go_wp2
  go_ret
  exact ⟨rfl, HE1.out⟩

set_option maxHeartbeats 1600000 in
theorem aokB_any (G : Nat) (hG : ∀ (args : Array Value) (w : World), (callFunc G args).run Tryz.prog w = .ok (.enter G args) w) (p : Nat → Bool) (most : Nat) (a : Option Addr) (b off n cap : Nat) (v : Nat → Value) (w : World) (hs : VSeg w a b off n v) (hn : n ≤ 1048576) (hm : most ≤ 1048576)
    (HC : Hid (∀ i, i < n → ∀ W, Ext w W → Calls Tryz.prog G #[v i] W fun e w' => e = .returned (.bool (p i)) ∧ Ext W w')) :
    Calls Tryz.prog 142 #[.slice a n cap, .int .i64 (most : Int), .func (.func G) #[] #[]] w fun e w' => e = .returned (.bool (decide (n ≤ most) && allB p n)) ∧ Ext w w' := by
  obtain ⟨V, hV⟩ : ∃ V, w.alloc (.cells #[.func (.func G) #[] #[]] 162) = V := ⟨_, rfl⟩
  obtain ⟨B0, hE, hl⟩ := box1 w [.func (.func G) #[] #[]] 162 (w1 := V) (by rw [← hV]; exact Ext.refl _)
  have HB := hide B0
  have HE := hide hE
  have HX := hide (conB_any 202 (.pointer (some ⟨w.heap.size, 0, none⟩)) (fun _ _ => by kernel_rfl) (fun i => !p i) a b off n cap v V (hs.of_all hE) hn
    (hide fun i hi W hW => aokB1_any G w.heap.size hG (p i) (v i) W ((Blk.ext HB.out hW (by omega)) 0 _ rfl).1 (hide (HC.out i hi W (Ext.trans hE hW)))))
  have HR : Hid (allB p n = !anyB (fun i => !p i) n) := rfl
  rw [HR.out]
  generalize anyB (fun i => !p i) n = R at HX ⊢
  clear B0 hE hs hl HR HC hG
  by_cases h : n ≤ most
  · have h1 : (n : Int) ≤ (most : Int) := by omega
    rw [decide_eq_true h, Bool.true_and]
    clear h
    go_enter Tryz.func142, Tryz.ntmps142
    go_wp2_with fail
    refine HX.out.mono ?_
    rintro e w1 ⟨rfl, hE1⟩
    have HE1 := hide hE1
    clear hE1
    go_wp2
    go_ret
    exact ⟨rfl, Ext.trans HE.out HE1.out⟩
  · have h1 : ¬ (n : Int) ≤ (most : Int) := by omega
    rw [decide_eq_false h, Bool.false_and]
    clear h
    go_enter Tryz.func142, Tryz.ntmps142
    go_wp2
    go_ret
    exact ⟨rfl, HE.out⟩
end

section
set_option linter.unusedVariables false
set_option linter.unusedSimpArgs false

open Go.RowKit

/-- A byte as Lower has it. -/
def lowB (c : Nat) : Int := if 65 ≤ c ∧ c ≤ 90 then c + 32 else c

def lowF (s : ByteArray) (i : Nat) : Int := lowB (bt s i)

theorem bone1 (x : Int) : ∀ u ∈ [Value.int .u8 x], u.oneCell' = true := by
  intro u hu
  simp at hu
  subst hu
  rfl

theorem low_step {f : Nat → Int} {k : Nat} {w wr w1 : World} {v v' : Value} {o : Obj} {x : Int} (hO : wr.ownsRow w.heap.size 5 1 v k (byts f k)) (hE : Ext w wr) (hx : x = f k)
    (hown : w1.ownsRow w.heap.size 5 1 v' (k + 1) (byts f k ++ [.int .u8 x])) (hg : (wr.alloc o).grownBy w1 v.ownBlock) : w1.ownsRow w.heap.size 5 1 v' (k + 1) (byts f (k + 1)) ∧ Ext w w1 := by
  refine ⟨?_, (Below.alloc hE (Below.size hE) o).grown hg (by have := Below.size hE; simp; omega) (fun j hj => (hO.lt j hj).1)⟩
  rw [byts_succ, ← hx]
  exact hown

set_option maxHeartbeats 1600000 in
set_option maxRecDepth 100000 in
theorem specLower_any (s : ByteArray) (hs : s.size ≤ 2097152) (w : World) :
    Calls Tryz.prog 245 #[.string s] w fun e w' => e = .returned (.string (strOfNums (nums (lowF s) s.size))) ∧ Ext w w' := by
  obtain ⟨i0, hi, hz0, hz1, hz2⟩ := info_parts Tryz.info5
  have HO := hide (World.ownsRow_made (base := w.heap.size) (e := 5) (size := 1) w #[] 0 (Nat.le_refl _) (by simp) rfl)
  go_enter Tryz.func245, Tryz.ntmps245
  go_wp2
  go_loopw [3, 4] (fun v i wr => ∃ k : Nat, k ≤ s.size ∧ i = .int .i64 k ∧ wr.ownsRow w.heap.size 5 1 v k (byts (lowF s) k) ∧ Ext w wr) (fun _ i _ => s.size - (intOf i).toNat)
  case atStart => exact ⟨0, Nat.zero_le _, rfl, HO.out, Ext.alloc _ _⟩
  case round =>
    clear HO
    obtain ⟨k, hk, rfl, hO, hE⟩ := hrel
    by_cases hlt : k < s.size
    · have hb := bt_get s k hlt
      have h2 := bt_lt s k
      have hkn : (k : Int) < (s.size : Int) := by omega
      have HF : Hid (lowF s k = lowB (bt s k)) := rfl
      have HO := hide hO
      have HE := hide hE
      clear hO hE
      generalize bt s k = c at *
      by_cases h65 : 65 ≤ c ∧ c ≤ 90
      · have g1 : (65 : Int) ≤ c := by omega
        have g2 : (c : Int) ≤ 90 := by omega
        have g3 : ((c : Int) + 97) % 256 = (c : Int) + 97 := by omega
        have HX : Hid ((c : Int) + 97 - 65 = lowF s k) := by show _ = _; rw [HF.out, lowB, if_pos h65]; omega
        go_wp2_with (at_builtin; refine wpList_append_own _ rfl _ _ 37 rfl w.heap.size 5 i0 (.int .u8 0) 1 1 Tryz.underlying37 hi hz0 hz1 hz2 rfl (by decide) _ _ _ rfl (HO.out.alloc _) ⟨wr.heap.size, 0, none⟩ 1 1 [.int .u8 ((c : Int) + 97 - 65)] rfl rfl (cell_one_new _ _ _) (bone1 _) (by unfold maxLen; omega) (by omega) (by have := Below.size HE.out; simp; omega) ?_; intro v' w1 hown' hgrow hnil)
        have HN := hide (low_step HO.out HE.out HX.out hown' hgrow)
        clear hown' hgrow hnil
        go_wp2
        go_roundw
        case rel => exact ⟨k + 1, by omega, by go_num, HN.out.1, HN.out.2⟩
        case measure => simp [intOf]; omega
      · have g1 : ¬ ((65 : Int) ≤ c ∧ (c : Int) ≤ 90) := by omega
        have HX : Hid ((c : Int) = lowF s k) := by show _ = _; rw [HF.out, lowB, if_neg h65]
        by_cases g0 : (65 : Int) ≤ c
        · have g2 : ¬ (c : Int) ≤ 90 := by omega
          go_wp2_with (at_builtin; refine wpList_append_own _ rfl _ _ 37 rfl w.heap.size 5 i0 (.int .u8 0) 1 1 Tryz.underlying37 hi hz0 hz1 hz2 rfl (by decide) _ _ _ rfl (HO.out.alloc _) ⟨wr.heap.size, 0, none⟩ 1 1 [.int .u8 (c : Int)] rfl rfl (cell_one_new _ _ _) (bone1 _) (by unfold maxLen; omega) (by omega) (by have := Below.size HE.out; simp; omega) ?_; intro v' w1 hown' hgrow hnil)
          have HN := hide (low_step HO.out HE.out HX.out hown' hgrow)
          clear hown' hgrow hnil
          go_wp2
          go_roundw
          case rel => exact ⟨k + 1, by omega, by go_num, HN.out.1, HN.out.2⟩
          case measure => simp [intOf]; omega
        · go_wp2_with (at_builtin; refine wpList_append_own _ rfl _ _ 37 rfl w.heap.size 5 i0 (.int .u8 0) 1 1 Tryz.underlying37 hi hz0 hz1 hz2 rfl (by decide) _ _ _ rfl (HO.out.alloc _) ⟨wr.heap.size, 0, none⟩ 1 1 [.int .u8 (c : Int)] rfl rfl (cell_one_new _ _ _) (bone1 _) (by unfold maxLen; omega) (by omega) (by have := Below.size HE.out; simp; omega) ?_; intro v' w1 hown' hgrow hnil)
          have HN := hide (low_step HO.out HE.out HX.out hown' hgrow)
          clear hown' hgrow hnil
          go_wp2
          go_roundw
          case rel => exact ⟨k + 1, by omega, by go_num, HN.out.1, HN.out.2⟩
          case measure => simp [intOf]; omega
    · obtain rfl : k = s.size := by omega
      obtain ⟨a, g, cap, rfl, hg, hc1, hc2, hB⟩ := owns_seg hO
      have hcv := conv_seg (cap := cap) hB.toBSeg
      have HE := hide hE
      clear hO hE hB
      go_wp2
      go_ret
      exact ⟨rfl, HE.out⟩

/-- What the program's loop has done behind the bytes below p. -/
def lowK (s : ByteArray) (p i : Nat) : Int := if i < p then lowF s i else bt s i

theorem lowK_high {s : ByteArray} {p q : Nat} (h : ∀ j, p ≤ j → j < p + q → lowF s j = bt s j) (i : Nat) : lowK s (p + q) i = lowK s p i := by
  unfold lowK
  by_cases h1 : i < p
  · rw [if_pos h1, if_pos (by omega)]
  · rw [if_neg h1]
    by_cases h2 : i < p + q
    · rw [if_pos h2]; exact h i (by omega) h2
    · rw [if_neg h2]

theorem bown_iterAt {w : World} {a : Option Addr} {g o n k : Nat} {f : Nat → Int} {s : ByteArray} {p : Nat} (h : BOwn w a g o n f) (hk : g ≠ k) : BOwn (w.iterAt k s p) a g o n f := by
  have hb : (w.iterAt k s p).heap[g]? = w.heap[g]? := Lib.iterAt_other _ _ _ _ _ hk
  refine ⟨⟨h.at', fun i hi => ?_⟩, fun i hi => ?_⟩
  · rw [World.cell?_of_block (a := ⟨g, o + i, none⟩) hb]; exact h.cell i hi
  · rw [World.frozen?_of_block (a := ⟨g, o + i, none⟩) hb]; exact h.free i hi

theorem bown_row (w : World) (s : ByteArray) (cap : Nat) (x : Nat × Nat) (hx : x = ((bytesRow s cap).size, (bytesRow s cap).size + 1)) : BOwn (w.alloc (.cells (bytesRow s cap) 5 x)) (some ⟨w.heap.size, 0, none⟩) w.heap.size 0 s.size (fun i => bt s i) := by
  have hb : (w.alloc (.cells (bytesRow s cap) 5 x)).heap[w.heap.size]? = some (.cells (bytesRow s cap) 5 x) := heap_alloc_new w _
  have hz : s.size ≤ (bytesRow s cap).size := by simp [bytesRow]
  refine ⟨⟨fun _ => rfl, fun i hi => ?_⟩, fun i hi => ?_⟩
  · simp only [World.cell?, hb]
    have : (bytesRow s cap)[i]? = some (.int .u8 (bt s i)) := by
      unfold bytesRow
      rw [Array.getElem?_append_left (by simpa using hi)]
      rw [Array.getElem?_map, Array.getElem?_eq_getElem (by simpa using hi)]
      simp only [Option.map_some]
      rw [← bt_get s i hi]
      rfl
    simpa using this
  · simp only [World.frozen?, hb]
    subst hx
    simp
    omega

set_option maxHeartbeats 1600000 in
set_option maxRecDepth 100000 in
theorem implLower_any (s : ByteArray) (hs : s.size ≤ 2097152) (w : World) :
    Calls Tryz.prog 288 #[.string s] w fun e w' => e = .returned (.string (strOfNums (nums (lowF s) s.size))) ∧ Ext w w' := by
  have hcv := run_bytes_of_string (P := Tryz.prog) w 9 37 5 s (by kernel_rfl) (by kernel_rfl) (by kernel_rfl)
  have HB := hide (bown_row w.drew s (grownCap w s.size 0 5) _ rfl)
  have HE : Hid (Ext w (w.drew.alloc (.cells (bytesRow s (grownCap w s.size 0 5)) 5 ((bytesRow s (grownCap w s.size 0 5)).size, (bytesRow s (grownCap w s.size 0 5)).size + 1)))) := Ext.trans (b := w.drew) ⟨rfl, rfl, rfl, Nat.le_refl _, fun _ _ => rfl⟩ (Ext.alloc _ _)
  have HZ : Hid ((w.drew.alloc (.cells (bytesRow s (grownCap w s.size 0 5)) 5 ((bytesRow s (grownCap w s.size 0 5)).size, (bytesRow s (grownCap w s.size 0 5)).size + 1))).heap.size = w.heap.size + 1) := by show _ = _; simp
  generalize w.drew.alloc (.cells (bytesRow s (grownCap w s.size 0 5)) 5 ((bytesRow s (grownCap w s.size 0 5)).size, (bytesRow s (grownCap w s.size 0 5)).size + 1)) = w1 at *
  generalize grownCap w s.size 0 5 = cap at *
  have HI := hide (Itr.start HE.out s)
  have HB2 := hide (BOwn.of_all HB.out (Ext.alloc w1 (.stringIter s 0)))
  rw [show w1.alloc (.stringIter s 0) = w1.iter s 0 from rfl] at HB2
  have HG : Hid (w.heap.size ≠ w1.heap.size) := by show _ ≠ _; rw [HZ.out]; omega
  clear HB HE HZ
  go_enter Tryz.func288, Tryz.ntmps288
  go_wp2
  clear hcv
  generalize hk0 : w1.heap.size = K at *
  clear hk0
  go_loopw [] (fun wr => ∃ p : Nat, p ≤ s.size ∧ Itr w wr K s p ∧ BOwn wr (some ⟨w.heap.size, 0, none⟩) w.heap.size 0 s.size (lowK s p)) (fun wr => s.size - wr.iterPos K)
  case atStart => exact ⟨0, Nat.zero_le _, HI.out, HB2.out.congr (fun i hi => by unfold lowK; rw [if_neg (Nat.not_lt_zero _)])⟩
  case round =>
    clear HI HB2
    obtain ⟨p, hp, hI, hB⟩ := hrel
    by_cases hlt : p < s.size
    · obtain ⟨r, q, hR⟩ := rn_at s p hlt
      have hnx : ∀ ty, (Instr.next (.pointer (some ⟨K, 0, none⟩)) true ty).run Tryz.prog wr = _ := fun ty => hR.next hI.blk hlt ty
      have HM : Hid (wr.iterPos K = p) := hI.pos
      have HR := hide hR
      have h2 := hR.le
      by_cases h65 : 65 ≤ r ∧ r ≤ 90
      · obtain ⟨hq, hb'⟩ := hR.low (by omega)
        subst hq
        have Hb := hide hb'
        clear hb'
        have g1 : (65 : Int) ≤ r := by omega
        have g2 : (r : Int) ≤ 90 := by omega
        have g5 : (p : Int) < (s.size : Int) := by omega
        have g4 : ((r : Int) + 32) % 256 = (r : Int) + 32 := by omega
        have hBB := bown_iterAt (s := s) (p := p + 1) hB HG.out
        have hc := hBB.cell p hlt
        have hf := hBB.free p hlt
        simp only [Nat.zero_add] at hc hf
        rw [show lowK s p p = (r : Int) by unfold lowK; rw [if_neg (Nat.lt_irrefl _), Hb.out]] at hc
        have HB := hide ((hBB.set hlt ((r : Int) + 32)).congr (f' := lowK s (p + 1)) (fun i hi => by
          unfold lowK
          by_cases e : i = p
          · subst e; rw [if_pos rfl, if_pos (by omega), lowF, lowB, ← Hb.out, if_pos h65]
          · rw [if_neg e]
            by_cases h : i < p
            · rw [if_pos h, if_pos (by omega)]
            · rw [if_neg h, if_neg (by omega)]))
        simp only [Nat.zero_add] at HB
        have HI := hide (hI.step (p + 1))
        have HI2 : Hid (Itr w ((wr.iterAt K s (p + 1)).setCell ⟨w.heap.size, p, none⟩ (.int .u8 ((r : Int) + 32))) K s (p + 1)) := by
          refine ⟨?_, HI.out.ge, ?_⟩
          · rw [Below.heap_setCell _ _ _ _ (by intro e; exact HG.out e.symm)]; exact HI.out.blk
          · exact below_touch HI.out.ext (Touch.set (Touch.refl w.heap.size _) p _) (Nat.le_refl _)
        clear hI hR hB hBB HI
        generalize wr.iterAt K s (p + 1) = w2 at *
        go_wp2
        go_roundw
        case rel => exact ⟨p + 1, by omega, HI2.out, HB.out⟩
        case measure => rw [HM.out, HI2.out.pos]; omega
      · have HB := hide ((bown_iterAt (s := s) (p := p + q) hB HG.out).congr (f' := lowK s (p + q)) (fun i hi => (lowK_high (fun j h1 h3 => by
          unfold lowF lowB
          by_cases h : r < 128
          · obtain ⟨rfl, hb⟩ := hR.low h
            obtain rfl : j = p := by omega
            rw [← hb, if_neg h65]
          · have := hR.high (by omega) j h1 h3
            rw [if_neg (by omega)]) i).symm))
        have HI := hide (hI.step (p + q))
        have HF := hide hR.fits
        have HP := hide hR.pos
        clear hI hR hB
        generalize wr.iterAt K s (p + q) = w2 at *
        by_cases g0 : 65 ≤ r
        · have g1 : (65 : Int) ≤ r := by omega
          have g2 : ¬ (r : Int) ≤ 90 := by omega
          go_wp2
          go_roundw
          case rel => exact ⟨p + q, HF.out, HI.out, HB.out⟩
          case measure => rw [HM.out, HI.out.pos]; have := HP.out; omega
        · have g1 : ¬ (65 : Int) ≤ r := by omega
          go_wp2
          go_roundw
          case rel => exact ⟨p + q, HF.out, HI.out, HB.out⟩
          case measure => rw [HM.out, HI.out.pos]; have := HP.out; omega
    · obtain rfl : p = s.size := by omega
      have hnx : ∀ ty, (Instr.next (.pointer (some ⟨K, 0, none⟩)) true ty).run Tryz.prog wr = _ := fun ty => Lib.run_next_end_at wr K s s.size ty hI.blk hlt
      have hcv := conv_seg (cap := cap) (hB.toBSeg.congr (g := lowF s) (fun i hi => by unfold lowK; rw [if_pos hi]))
      have HE := hide hI.ext
      clear hI hB
      go_wp2
      go_ret
      exact ⟨rfl, HE.out⟩
end

end Go.Proofs.YtollgoadgjlccaaGreatDoor
