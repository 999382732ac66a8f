/- Walks: the program's allOk over lists whose elements are one cell each (written by mkaok.py). Plain notions: puny texts: thresholds, digits, bias, the order in which numbers are told. Nothing of the program. -/
import Derived.Handy
import Derived.Laws.EntriesVeiled
import Derived.Test.YtgdjaapjdmancaaGreatDoorCy01
import Derived.Test.YtgdjaapjdmancaaGreatDoorCy10
namespace Go.Proofs.YtgdjaapjdmancaaGreatDoor

section
set_option linter.unusedVariables false
set_option linter.unusedSimpArgs false
set_option maxRecDepth 100000

open Go.RowKit

/-- A list whose elements are one cell each. -/
structure VSeg (w : World) (a : Option Addr) (b off n : Nat) (v : Nat → Value) : Prop where
  at' : 0 < n → a = some ⟨b, off, none⟩
  cell : ∀ i, i < n → w.cell? ⟨b, off + i, none⟩ = some (v i)

theorem VSeg.lt {w : World} {a : Option Addr} {b off n : Nat} {v : Nat → Value} (h : VSeg w a b off n v) (hn : 0 < n) : b < w.heap.size := World.block_lt_of_cell? _ _ (h.cell 0 hn)

theorem VSeg.of_all {w w' : World} {a : Option Addr} {b off n : Nat} {v : Nat → Value} (h : VSeg w a b off n v) (e : Ext w w') : VSeg w' a b off n v :=
  ⟨h.at', fun i hi => (Below.cell e (p := ⟨b, off + i, none⟩) (h.lt (by omega))).trans (h.cell i hi)⟩

theorem SSeg.v {w : World} {a : Option Addr} {b off n : Nat} {f : Nat → ByteArray} (h : SSeg w a b off n f) : VSeg w a b off n (fun i => .string (f i)) := ⟨h.at', h.cell⟩

theorem Seg.v {w : World} {a : Option Addr} {b off n : Nat} {f : Nat → Int} (h : Seg w a b off n f) : VSeg w a b off n (fun i => .int .i64 (f i)) := ⟨h.at', h.cell⟩

theorem BSeg.v {w : World} {a : Option Addr} {b off n : Nat} {f : Nat → Int} (h : BSeg w a b off n f) : VSeg w a b off n (fun i => .int .u8 (f i)) := ⟨h.at', h.cell⟩

theorem NSeg.v {w : World} {p : Plc} {q : Nat → Plc} {n : Nat} {ln : Nat → Nat} {f : Nat → Nat → Int} (h : NSeg w p q n ln f) : VSeg w p.ad p.b p.off n (fun i => .slice (q i).ad (ln i) (q i).cap) := ⟨h.at', h.cell⟩

/-- What slices.IndexFunc answers where R tells whether there is one. -/
def IdxQ (R : Bool) (e : Ending) : Prop := ∃ z : Int, e = .returned (.int .i64 z) ∧ decide (0 ≤ z) = R

set_option maxHeartbeats 1600000 in
theorem idxS_any (F : Nat) (c : Value) (hF : ∀ (args : Array Value) (w : World), (callFunc F args).run Tryz.prog w = .ok (.enter F args) w) (p : Nat → Bool) (a : Option Addr) (b off n cap : Nat) (v : Nat → Value) (w : World) (hs : VSeg w a b off n v) (hn : n ≤ 1048576)
    (HC : Hid (∀ i, i < n → ∀ W, Ext w W → Calls Tryz.prog F #[v i, c] W fun e w' => e = .returned (.bool (p i)) ∧ Ext W w')) :
    Calls Tryz.prog 102 #[.slice a n cap, .func (.func F) #[] #[c]] w fun e w' => IdxQ (anyB p n) e ∧ Ext w w' := by
  have Hs := hide hs
  obtain ⟨R, hR⟩ : ∃ R, R = anyB p n := ⟨_, rfl⟩
  rw [← hR]
  have HR := hide hR
  clear hs hR
  go_enter Tryz.func102, Tryz.ntmps102
  go_wp2
  go_loopw [8] (fun i wr => ∃ k : Nat, k ≤ n ∧ i = .int .i64 (k : Int) ∧ (∀ j, j < k → p j = false) ∧ Ext w wr) (fun i _ => n - (intOf i).toNat)
  case atStart => exact ⟨0, Nat.zero_le _, rfl, fun j hj => absurd hj (Nat.not_lt_zero _), Ext.refl _⟩
  case round =>
    obtain ⟨k, hk, rfl, hd, hE⟩ := hrel
    have HD := hide hd
    have HE := hide hE
    by_cases hlt : k < n
    · obtain rfl := Hs.out.at' (by omega)
      have c1 := (Hs.out.of_all hE).cell k hlt
      have hkn : (k : Int) < (n : Int) := by omega
      have HX := hide (HC.out k hlt _ hE)
      obtain ⟨q, hq⟩ : ∃ q, p k = q := ⟨_, rfl⟩
      rw [hq] at HX
      have Hq := hide hq
      clear hd hE hq
      go_wp2_with fail
      refine HX.out.mono ?_
      rintro e w1 ⟨rfl, hE1⟩
      have HE1 := hide hE1
      clear hE1
      cases q
      · go_wp2
        go_roundw
        case rel => exact ⟨k + 1, by omega, by go_num, fun j hj => by
                      by_cases e : j = k
                      · subst e; exact Hq.out
                      · exact HD.out j (by omega), Ext.trans HE.out HE1.out⟩
        case measure => simp [intOf]; omega
      · go_wp2
        go_ret
        exact ⟨⟨_, rfl, by rw [HR.out, anyB_yes hlt Hq.out]; exact decide_eq_true (Int.natCast_nonneg _)⟩, Ext.trans HE.out HE1.out⟩
    · obtain rfl : k = n := by omega
      clear hd hE
      go_wp2
      go_ret
      exact ⟨⟨_, rfl, by rw [HR.out, anyB_no HD.out]; rfl⟩, HE.out⟩

set_option maxHeartbeats 800000 in
theorem conS_any (F : Nat) (c : Value) (hF : ∀ (args : Array Value) (w : World), (callFunc F args).run Tryz.prog w = .ok (.enter F args) w) (p : Nat → Bool) (a : Option Addr) (b off n cap : Nat) (v : Nat → Value) (w : World) (hs : VSeg w a b off n v) (hn : n ≤ 1048576)
    (HC : Hid (∀ i, i < n → ∀ W, Ext w W → Calls Tryz.prog F #[v i, c] W fun e w' => e = .returned (.bool (p i)) ∧ Ext W w')) :
    Calls Tryz.prog 88 #[.slice a n cap, .func (.func F) #[] #[c]] w fun e w' => e = .returned (.bool (anyB p n)) ∧ Ext w w' := by
  have HX := hide (idxS_any F c hF p a b off n cap v w hs hn HC)
  clear hs HC hF
  obtain ⟨R, hR⟩ : ∃ R, anyB p n = R := ⟨_, rfl⟩
  rw [hR] at HX ⊢
  clear hR
  go_enter Tryz.func88, Tryz.ntmps88
  go_wp2_with fail
  refine HX.out.mono ?_
  rintro e w1 ⟨⟨z, rfl, hz⟩, hE1⟩
  have HE1 := hide hE1
  clear hE1
  have Hz := hide hz
  clear hz
  go_wp2
  go_ret
  exact ⟨ret_bool Hz.out, HE1.out⟩

set_option maxHeartbeats 800000 in
theorem aokS1_any (G B : Nat) (hG : ∀ (args : Array Value) (w : World), (callFunc G args).run Tryz.prog w = .ok (.enter G args) w) (r : Bool) (v : Value) (w : World) (hc : w.cell? ⟨B, 0, none⟩ = some (.func (.func G) #[] #[]))
    (HC : Hid (Calls Tryz.prog G #[v] w fun e w' => e = .returned (.bool r) ∧ Ext w w')) :
    Calls Tryz.prog 87 #[v, .pointer (some ⟨B, 0, none⟩)] w fun e w' => e = .returned (.bool (!r)) ∧ Ext w w' := by
  go_enter Tryz.func87, Tryz.ntmps87
  go_wp2_with fail
  refine HC.out.mono ?_
  rintro e w1 ⟨rfl, hE1⟩
  have HE1 := hide hE1
  clear hE1
  go_wp2
  go_ret
  exact ⟨rfl, HE1.out⟩

set_option maxHeartbeats 1600000 in
theorem aokS_any (G : Nat) (hG : ∀ (args : Array Value) (w : World), (callFunc G args).run Tryz.prog w = .ok (.enter G args) w) (p : Nat → Bool) (most : Nat) (a : Option Addr) (b off n cap : Nat) (v : Nat → Value) (w : World) (hs : VSeg w a b off n v) (hn : n ≤ 1048576) (hm : most ≤ 1048576)
    (HC : Hid (∀ i, i < n → ∀ W, Ext w W → Calls Tryz.prog G #[v i] W fun e w' => e = .returned (.bool (p i)) ∧ Ext W w')) :
    Calls Tryz.prog 69 #[.slice a n cap, .int .i64 (most : Int), .func (.func G) #[] #[]] w fun e w' => e = .returned (.bool (decide (n ≤ most) && allB p n)) ∧ Ext w w' := by
  obtain ⟨V, hV⟩ : ∃ V, w.alloc (.cells #[.func (.func G) #[] #[]] 88) = V := ⟨_, rfl⟩
  obtain ⟨B0, hE, hl⟩ := box1 w [.func (.func G) #[] #[]] 88 (w1 := V) (by rw [← hV]; exact Ext.refl _)
  have HB := hide B0
  have HE := hide hE
  have HX := hide (conS_any 87 (.pointer (some ⟨w.heap.size, 0, none⟩)) (fun _ _ => by kernel_rfl) (fun i => !p i) a b off n cap v V (hs.of_all hE) hn
    (hide fun i hi W hW => aokS1_any G w.heap.size hG (p i) (v i) W ((Blk.ext HB.out hW (by omega)) 0 _ rfl).1 (hide (HC.out i hi W (Ext.trans hE hW)))))
  have HR : Hid (allB p n = !anyB (fun i => !p i) n) := rfl
  rw [HR.out]
  generalize anyB (fun i => !p i) n = R at HX ⊢
  clear B0 hE hs hl HR HC hG
  by_cases h : n ≤ most
  · have h1 : (n : Int) ≤ (most : Int) := by omega
    rw [decide_eq_true h, Bool.true_and]
    clear h
    go_enter Tryz.func69, Tryz.ntmps69
    go_wp2_with fail
    refine HX.out.mono ?_
    rintro e w1 ⟨rfl, hE1⟩
    have HE1 := hide hE1
    clear hE1
    go_wp2
    go_ret
    exact ⟨rfl, Ext.trans HE.out HE1.out⟩
  · have h1 : ¬ (n : Int) ≤ (most : Int) := by omega
    rw [decide_eq_false h, Bool.false_and]
    clear h
    go_enter Tryz.func69, Tryz.ntmps69
    go_wp2
    go_ret
    exact ⟨rfl, HE.out⟩

set_option maxHeartbeats 1600000 in
theorem idxI_any (F : Nat) (c : Value) (hF : ∀ (args : Array Value) (w : World), (callFunc F args).run Tryz.prog w = .ok (.enter F args) w) (p : Nat → Bool) (a : Option Addr) (b off n cap : Nat) (v : Nat → Value) (w : World) (hs : VSeg w a b off n v) (hn : n ≤ 1048576)
    (HC : Hid (∀ i, i < n → ∀ W, Ext w W → Calls Tryz.prog F #[v i, c] W fun e w' => e = .returned (.bool (p i)) ∧ Ext W w')) :
    Calls Tryz.prog 91 #[.slice a n cap, .func (.func F) #[] #[c]] w fun e w' => IdxQ (anyB p n) e ∧ Ext w w' := by
  have Hs := hide hs
  obtain ⟨R, hR⟩ : ∃ R, R = anyB p n := ⟨_, rfl⟩
  rw [← hR]
  have HR := hide hR
  clear hs hR
  go_enter Tryz.func91, Tryz.ntmps91
  go_wp2
  go_loopw [8] (fun i wr => ∃ k : Nat, k ≤ n ∧ i = .int .i64 (k : Int) ∧ (∀ j, j < k → p j = false) ∧ Ext w wr) (fun i _ => n - (intOf i).toNat)
  case atStart => exact ⟨0, Nat.zero_le _, rfl, fun j hj => absurd hj (Nat.not_lt_zero _), Ext.refl _⟩
  case round =>
    obtain ⟨k, hk, rfl, hd, hE⟩ := hrel
    have HD := hide hd
    have HE := hide hE
    by_cases hlt : k < n
    · obtain rfl := Hs.out.at' (by omega)
      have c1 := (Hs.out.of_all hE).cell k hlt
      have hkn : (k : Int) < (n : Int) := by omega
      have HX := hide (HC.out k hlt _ hE)
      obtain ⟨q, hq⟩ : ∃ q, p k = q := ⟨_, rfl⟩
      rw [hq] at HX
      have Hq := hide hq
      clear hd hE hq
      go_wp2_with fail
      refine HX.out.mono ?_
      rintro e w1 ⟨rfl, hE1⟩
      have HE1 := hide hE1
      clear hE1
      cases q
      · go_wp2
        go_roundw
        case rel => exact ⟨k + 1, by omega, by go_num, fun j hj => by
                      by_cases e : j = k
                      · subst e; exact Hq.out
                      · exact HD.out j (by omega), Ext.trans HE.out HE1.out⟩
        case measure => simp [intOf]; omega
      · go_wp2
        go_ret
        exact ⟨⟨_, rfl, by rw [HR.out, anyB_yes hlt Hq.out]; exact decide_eq_true (Int.natCast_nonneg _)⟩, Ext.trans HE.out HE1.out⟩
    · obtain rfl : k = n := by omega
      clear hd hE
      go_wp2
      go_ret
      exact ⟨⟨_, rfl, by rw [HR.out, anyB_no HD.out]; rfl⟩, HE.out⟩

set_option maxHeartbeats 800000 in
theorem conI_any (F : Nat) (c : Value) (hF : ∀ (args : Array Value) (w : World), (callFunc F args).run Tryz.prog w = .ok (.enter F args) w) (p : Nat → Bool) (a : Option Addr) (b off n cap : Nat) (v : Nat → Value) (w : World) (hs : VSeg w a b off n v) (hn : n ≤ 1048576)
    (HC : Hid (∀ i, i < n → ∀ W, Ext w W → Calls Tryz.prog F #[v i, c] W fun e w' => e = .returned (.bool (p i)) ∧ Ext W w')) :
    Calls Tryz.prog 74 #[.slice a n cap, .func (.func F) #[] #[c]] w fun e w' => e = .returned (.bool (anyB p n)) ∧ Ext w w' := by
  have HX := hide (idxI_any F c hF p a b off n cap v w hs hn HC)
  clear hs HC hF
  obtain ⟨R, hR⟩ : ∃ R, anyB p n = R := ⟨_, rfl⟩
  rw [hR] at HX ⊢
  clear hR
  go_enter Tryz.func74, Tryz.ntmps74
  go_wp2_with fail
  refine HX.out.mono ?_
  rintro e w1 ⟨⟨z, rfl, hz⟩, hE1⟩
  have HE1 := hide hE1
  clear hE1
  have Hz := hide hz
  clear hz
  go_wp2
  go_ret
  exact ⟨ret_bool Hz.out, HE1.out⟩

set_option maxHeartbeats 800000 in
theorem aokI1_any (G B : Nat) (hG : ∀ (args : Array Value) (w : World), (callFunc G args).run Tryz.prog w = .ok (.enter G args) w) (r : Bool) (v : Value) (w : World) (hc : w.cell? ⟨B, 0, none⟩ = some (.func (.func G) #[] #[]))
    (HC : Hid (Calls Tryz.prog G #[v] w fun e w' => e = .returned (.bool r) ∧ Ext w w')) :
    Calls Tryz.prog 73 #[v, .pointer (some ⟨B, 0, none⟩)] w fun e w' => e = .returned (.bool (!r)) ∧ Ext w w' := by
  go_enter Tryz.func73, Tryz.ntmps73
  go_wp2_with fail
  refine HC.out.mono ?_
  rintro e w1 ⟨rfl, hE1⟩
  have HE1 := hide hE1
  clear hE1
  go_wp2
  go_ret
  exact ⟨rfl, HE1.out⟩

set_option maxHeartbeats 1600000 in
theorem aokI_any (G : Nat) (hG : ∀ (args : Array Value) (w : World), (callFunc G args).run Tryz.prog w = .ok (.enter G args) w) (p : Nat → Bool) (most : Nat) (a : Option Addr) (b off n cap : Nat) (v : Nat → Value) (w : World) (hs : VSeg w a b off n v) (hn : n ≤ 1048576) (hm : most ≤ 1048576)
    (HC : Hid (∀ i, i < n → ∀ W, Ext w W → Calls Tryz.prog G #[v i] W fun e w' => e = .returned (.bool (p i)) ∧ Ext W w')) :
    Calls Tryz.prog 47 #[.slice a n cap, .int .i64 (most : Int), .func (.func G) #[] #[]] w fun e w' => e = .returned (.bool (decide (n ≤ most) && allB p n)) ∧ Ext w w' := by
  obtain ⟨V, hV⟩ : ∃ V, w.alloc (.cells #[.func (.func G) #[] #[]] 57) = V := ⟨_, rfl⟩
  obtain ⟨B0, hE, hl⟩ := box1 w [.func (.func G) #[] #[]] 57 (w1 := V) (by rw [← hV]; exact Ext.refl _)
  have HB := hide B0
  have HE := hide hE
  have HX := hide (conI_any 73 (.pointer (some ⟨w.heap.size, 0, none⟩)) (fun _ _ => by kernel_rfl) (fun i => !p i) a b off n cap v V (hs.of_all hE) hn
    (hide fun i hi W hW => aokI1_any G w.heap.size hG (p i) (v i) W ((Blk.ext HB.out hW (by omega)) 0 _ rfl).1 (hide (HC.out i hi W (Ext.trans hE hW)))))
  have HR : Hid (allB p n = !anyB (fun i => !p i) n) := rfl
  rw [HR.out]
  generalize anyB (fun i => !p i) n = R at HX ⊢
  clear B0 hE hs hl HR HC hG
  by_cases h : n ≤ most
  · have h1 : (n : Int) ≤ (most : Int) := by omega
    rw [decide_eq_true h, Bool.true_and]
    clear h
    go_enter Tryz.func47, Tryz.ntmps47
    go_wp2_with fail
    refine HX.out.mono ?_
    rintro e w1 ⟨rfl, hE1⟩
    have HE1 := hide hE1
    clear hE1
    go_wp2
    go_ret
    exact ⟨rfl, Ext.trans HE.out HE1.out⟩
  · have h1 : ¬ (n : Int) ≤ (most : Int) := by omega
    rw [decide_eq_false h, Bool.false_and]
    clear h
    go_enter Tryz.func47, Tryz.ntmps47
    go_wp2
    go_ret
    exact ⟨rfl, HE.out⟩

set_option maxHeartbeats 1600000 in
theorem idxB_any (F : Nat) (c : Value) (hF : ∀ (args : Array Value) (w : World), (callFunc F args).run Tryz.prog w = .ok (.enter F args) w) (p : Nat → Bool) (a : Option Addr) (b off n cap : Nat) (v : Nat → Value) (w : World) (hs : VSeg w a b off n v) (hn : n ≤ 1048576)
    (HC : Hid (∀ i, i < n → ∀ W, Ext w W → Calls Tryz.prog F #[v i, c] W fun e w' => e = .returned (.bool (p i)) ∧ Ext W w')) :
    Calls Tryz.prog 107 #[.slice a n cap, .func (.func F) #[] #[c]] w fun e w' => IdxQ (anyB p n) e ∧ Ext w w' := by
  have Hs := hide hs
  obtain ⟨R, hR⟩ : ∃ R, R = anyB p n := ⟨_, rfl⟩
  rw [← hR]
  have HR := hide hR
  clear hs hR
  go_enter Tryz.func107, Tryz.ntmps107
  go_wp2
  go_loopw [8] (fun i wr => ∃ k : Nat, k ≤ n ∧ i = .int .i64 (k : Int) ∧ (∀ j, j < k → p j = false) ∧ Ext w wr) (fun i _ => n - (intOf i).toNat)
  case atStart => exact ⟨0, Nat.zero_le _, rfl, fun j hj => absurd hj (Nat.not_lt_zero _), Ext.refl _⟩
  case round =>
    obtain ⟨k, hk, rfl, hd, hE⟩ := hrel
    have HD := hide hd
    have HE := hide hE
    by_cases hlt : k < n
    · obtain rfl := Hs.out.at' (by omega)
      have c1 := (Hs.out.of_all hE).cell k hlt
      have hkn : (k : Int) < (n : Int) := by omega
      have HX := hide (HC.out k hlt _ hE)
      obtain ⟨q, hq⟩ : ∃ q, p k = q := ⟨_, rfl⟩
      rw [hq] at HX
      have Hq := hide hq
      clear hd hE hq
      go_wp2_with fail
      refine HX.out.mono ?_
      rintro e w1 ⟨rfl, hE1⟩
      have HE1 := hide hE1
      clear hE1
      cases q
      · go_wp2
        go_roundw
        case rel => exact ⟨k + 1, by omega, by go_num, fun j hj => by
                      by_cases e : j = k
                      · subst e; exact Hq.out
                      · exact HD.out j (by omega), Ext.trans HE.out HE1.out⟩
        case measure => simp [intOf]; omega
      · go_wp2
        go_ret
        exact ⟨⟨_, rfl, by rw [HR.out, anyB_yes hlt Hq.out]; exact decide_eq_true (Int.natCast_nonneg _)⟩, Ext.trans HE.out HE1.out⟩
    · obtain rfl : k = n := by omega
      clear hd hE
      go_wp2
      go_ret
      exact ⟨⟨_, rfl, by rw [HR.out, anyB_no HD.out]; rfl⟩, HE.out⟩

set_option maxHeartbeats 800000 in
theorem conB_any (F : Nat) (c : Value) (hF : ∀ (args : Array Value) (w : World), (callFunc F args).run Tryz.prog w = .ok (.enter F args) w) (p : Nat → Bool) (a : Option Addr) (b off n cap : Nat) (v : Nat → Value) (w : World) (hs : VSeg w a b off n v) (hn : n ≤ 1048576)
    (HC : Hid (∀ i, i < n → ∀ W, Ext w W → Calls Tryz.prog F #[v i, c] W fun e w' => e = .returned (.bool (p i)) ∧ Ext W w')) :
    Calls Tryz.prog 104 #[.slice a n cap, .func (.func F) #[] #[c]] w fun e w' => e = .returned (.bool (anyB p n)) ∧ Ext w w' := by
  have HX := hide (idxB_any F c hF p a b off n cap v w hs hn HC)
  clear hs HC hF
  obtain ⟨R, hR⟩ : ∃ R, anyB p n = R := ⟨_, rfl⟩
  rw [hR] at HX ⊢
  clear hR
  go_enter Tryz.func104, Tryz.ntmps104
  go_wp2_with fail
  refine HX.out.mono ?_
  rintro e w1 ⟨⟨z, rfl, hz⟩, hE1⟩
  have HE1 := hide hE1
  clear hE1
  have Hz := hide hz
  clear hz
  go_wp2
  go_ret
  exact ⟨ret_bool Hz.out, HE1.out⟩

set_option maxHeartbeats 800000 in
theorem aokB1_any (G B : Nat) (hG : ∀ (args : Array Value) (w : World), (callFunc G args).run Tryz.prog w = .ok (.enter G args) w) (r : Bool) (v : Value) (w : World) (hc : w.cell? ⟨B, 0, none⟩ = some (.func (.func G) #[] #[]))
    (HC : Hid (Calls Tryz.prog G #[v] w fun e w' => e = .returned (.bool r) ∧ Ext w w')) :
    Calls Tryz.prog 103 #[v, .pointer (some ⟨B, 0, none⟩)] w fun e w' => e = .returned (.bool (!r)) ∧ Ext w w' := by
  go_enter Tryz.func103, Tryz.ntmps103
  go_wp2_with fail
  refine HC.out.mono ?_
  rintro e w1 ⟨rfl, hE1⟩
  have HE1 := hide hE1
  clear hE1
  go_wp2
  go_ret
  exact ⟨rfl, HE1.out⟩

set_option maxHeartbeats 1600000 in
theorem aokB_any (G : Nat) (hG : ∀ (args : Array Value) (w : World), (callFunc G args).run Tryz.prog w = .ok (.enter G args) w) (p : Nat → Bool) (most : Nat) (a : Option Addr) (b off n cap : Nat) (v : Nat → Value) (w : World) (hs : VSeg w a b off n v) (hn : n ≤ 1048576) (hm : most ≤ 1048576)
    (HC : Hid (∀ i, i < n → ∀ W, Ext w W → Calls Tryz.prog G #[v i] W fun e w' => e = .returned (.bool (p i)) ∧ Ext W w')) :
    Calls Tryz.prog 89 #[.slice a n cap, .int .i64 (most : Int), .func (.func G) #[] #[]] w fun e w' => e = .returned (.bool (decide (n ≤ most) && allB p n)) ∧ Ext w w' := by
  obtain ⟨V, hV⟩ : ∃ V, w.alloc (.cells #[.func (.func G) #[] #[]] 108) = V := ⟨_, rfl⟩
  obtain ⟨B0, hE, hl⟩ := box1 w [.func (.func G) #[] #[]] 108 (w1 := V) (by rw [← hV]; exact Ext.refl _)
  have HB := hide B0
  have HE := hide hE
  have HX := hide (conB_any 103 (.pointer (some ⟨w.heap.size, 0, none⟩)) (fun _ _ => by kernel_rfl) (fun i => !p i) a b off n cap v V (hs.of_all hE) hn
    (hide fun i hi W hW => aokB1_any G w.heap.size hG (p i) (v i) W ((Blk.ext HB.out hW (by omega)) 0 _ rfl).1 (hide (HC.out i hi W (Ext.trans hE hW)))))
  have HR : Hid (allB p n = !anyB (fun i => !p i) n) := rfl
  rw [HR.out]
  generalize anyB (fun i => !p i) n = R at HX ⊢
  clear B0 hE hs hl HR HC hG
  by_cases h : n ≤ most
  · have h1 : (n : Int) ≤ (most : Int) := by omega
    rw [decide_eq_true h, Bool.true_and]
    clear h
    go_enter Tryz.func89, Tryz.ntmps89
    go_wp2_with fail
    refine HX.out.mono ?_
    rintro e w1 ⟨rfl, hE1⟩
    have HE1 := hide hE1
    clear hE1
    go_wp2
    go_ret
    exact ⟨rfl, Ext.trans HE.out HE1.out⟩
  · have h1 : ¬ (n : Int) ≤ (most : Int) := by omega
    rw [decide_eq_false h, Bool.false_and]
    clear h
    go_enter Tryz.func89, Tryz.ntmps89
    go_wp2
    go_ret
    exact ⟨rfl, HE.out⟩
end

section
set_option linter.unusedVariables false
set_option linter.unusedSimpArgs false

/-- What a digit at k is held against. -/
def thr (k bias : Int) : Int := max 1 (min 26 (k - bias))

/-- A digit's byte. -/
def pd (x : Int) : Int := if x < 26 then 97 + x else 22 + x

/-- q's digits, from k on. -/
def pdig (bias : Int) : Nat → Int → Int → List Int
  | 0, _, _ => []
  | F + 1, k, q => if q < thr k bias then [pd q] else pd (thr k bias + (q - thr k bias) % (36 - thr k bias)) :: pdig bias F (k + 36) ((q - thr k bias) / (36 - thr k bias))

def dgs (bias q : Int) : List Int := pdig bias (q.toNat + 1) 36 q

/-- The bias, by division. -/
def blP : Nat → Int → Int → Int
  | 0, d, k => k + 36 * d / (d + 38)
  | F + 1, d, k => if 455 < d then blP F (d / 35) (k + 36) else k + 36 * d / (d + 38)

def pbias (delta many : Int) (first : Bool) : Int :=
  let d := if first then delta / 700 else delta / 2
  blP (d + d / many).toNat (d + d / many) 0

theorem frac_le {d : Int} (h : 0 ≤ d) : 0 ≤ 36 * d / (d + 38) ∧ 36 * d / (d + 38) ≤ 36 := by
  refine ⟨Int.ediv_nonneg (by omega) (by omega), ?_⟩
  exact Int.ediv_le_of_le_mul (by omega) (by omega)

theorem blP_bound : ∀ F d k, 0 ≤ d → 0 ≤ k → 0 ≤ blP F d k ∧ blP F d k ≤ k + 36 * d + 36
  | 0, d, k, h0, h1 => by unfold blP; have := frac_le h0; omega
  | F + 1, d, k, h0, h1 => by
    unfold blP
    split
    · have := blP_bound F (d / 35) (k + 36) (by omega) (by omega)
      omega
    · have := frac_le h0; omega

theorem pbias_bound {d m : Int} {b : Bool} (h0 : 0 ≤ d) (h1 : d ≤ 30000000) (h2 : 1 ≤ m) : 0 ≤ pbias d m b ∧ pbias d m b ≤ 2000000000 := by
  unfold pbias
  have h3 : 0 ≤ (if b then d / 700 else d / 2) ∧ (if b then d / 700 else d / 2) ≤ 15000000 := by split <;> omega
  generalize (if b then d / 700 else d / 2) = x at *
  have h4 := Int.ediv_nonneg h3.1 (show 0 ≤ m by omega)
  have h5 := Int.ediv_le_self m h3.1
  have := blP_bound (x + x / m).toNat (x + x / m) 0 (by omega) (Int.le_refl _)
  simp only []
  omega

/-- How many of the first k are below n. -/
def cnt (f : Nat → Int) (n : Int) : Nat → Nat
  | 0 => 0
  | k + 1 => cnt f n k + if f k < n then 1 else 0

/-- How many of the first k are n. -/
def cntE (f : Nat → Int) (n : Int) : Nat → Nat
  | 0 => 0
  | k + 1 => cntE f n k + if f k = n then 1 else 0

theorem cnt_succ (f : Nat → Int) (n : Int) : ∀ k, cnt f (n + 1) k = cnt f n k + cntE f n k
  | 0 => rfl
  | k + 1 => by
    unfold cnt cntE
    rw [cnt_succ f n k]
    by_cases h1 : f k < n
    · rw [if_pos h1, if_pos (by omega), if_neg (by omega)]; omega
    · by_cases h2 : f k = n
      · rw [if_neg h1, if_pos (by omega), if_pos h2]; omega
      · rw [if_neg h1, if_neg (by omega), if_neg h2]; omega

theorem cnt_gap {f : Nat → Int} {n m : Int} (hnm : n ≤ m) : ∀ {k}, (∀ i, i < k → n ≤ f i → m ≤ f i) → cnt f m k = cnt f n k
  | 0, _ => rfl
  | k + 1, h => by
    unfold cnt
    rw [cnt_gap hnm (fun i hi => h i (by omega))]
    by_cases e : f k < n
    · rw [if_pos e, if_pos (by omega)]
    · have := h k (by omega) (by omega)
      rw [if_neg e, if_neg (by omega)]

/-- What the least is, where there is one. -/
structure IsLst (f : Nat → Int) (n : Int) (len : Nat) (x : Int) : Prop where
  ge : n ≤ x
  gap : ∀ i, i < len → n ≤ f i → x ≤ f i
  at' : ∃ i, i < len ∧ f i = x

theorem IsLst.unique {f : Nat → Int} {n : Int} {len : Nat} {x y : Int} (h : IsLst f n len x) (k : IsLst f n len y) : x = y := by
  obtain ⟨i, h1, h2⟩ := h.at'
  obtain ⟨j, k1, k2⟩ := k.at'
  have h3 := h.ge
  have k3 := k.ge
  have := h.gap j k1 (by omega)
  have := k.gap i h1 (by omega)
  omega

/-- What is told so far: how many numbers, the delta, the bias, the bytes. -/
structure PS where
  h : Nat
  d : Int
  b : Int
  o : List Int

def pin (basic : Nat) (n x : Int) (s : PS) : PS :=
  if x = n then ⟨s.h + 1, 0, pbias s.d (s.h + 1) (s.h == basic), s.o ++ dgs s.b s.d⟩
  else if x < n then ⟨s.h, s.d + 1, s.b, s.o⟩ else s

theorem pdig_len (b : Int) : ∀ F k q, (pdig b F k q).length ≤ F
  | 0, k, q => Nat.le_refl _
  | F + 1, k, q => by
    unfold pdig
    split
    · simp
    · have := pdig_len b F (k + 36) ((q - thr k b) / (36 - thr k b)); simp; omega

theorem dgs_len (b q : Int) : (dgs b q).length ≤ q.toNat + 1 := pdig_len b _ _ _

/-- The bounds of a state within a round at m, k numbers looked at. -/
structure InB (f : Nat → Int) (len : Nat) (m : Int) (k : Nat) (s : PS) : Prop where
  h : s.h = cnt f m len + cntE f m k
  d0 : 0 ≤ s.d
  d1 : s.d ≤ 21 * m + k
  b0 : 0 ≤ s.b
  b1 : s.b ≤ 2000000000
  l1 : s.o.length ≤ 30 + 30000001 * s.h

theorem InB.step {f : Nat → Int} {len k basic : Nat} {m : Int} {s : PS} (hm0 : 128 ≤ m) (hm1 : m ≤ 1114111) (hl : len ≤ 20) (hk : k < len) (B : InB f len m k s) : InB f len m (k + 1) (pin basic m (f k) s) := by
  have h1 := B.d0
  have h2 := B.d1
  have h3 := B.h
  have h4 := B.l1
  unfold pin
  by_cases e : f k = m
  · rw [if_pos e]
    obtain ⟨p1, p2⟩ := pbias_bound (d := s.d) (m := (s.h : Int) + 1) (b := s.h == basic) h1 (by omega) (by omega)
    have hd := dgs_len s.b s.d
    refine ⟨?_, Int.le_refl _, by simp only []; omega, p1, p2, ?_⟩
    · simp only [cntE]; rw [if_pos e]; omega
    · simp only [List.length_append]; omega
  · rw [if_neg e]
    by_cases c : f k < m
    · rw [if_pos c]
      refine ⟨?_, by simp only []; omega, by simp only []; omega, B.b0, B.b1, h4⟩
      simp only [cntE]; rw [if_neg e]; omega
    · rw [if_neg c]
      exact ⟨by simp only [cntE]; rw [if_neg e]; omega, h1, by omega, B.b0, B.b1, h4⟩

/-- The bounds of a state between rounds. -/
structure OutB (f : Nat → Int) (len : Nat) (n : Int) (s : PS) : Prop where
  h : s.h = cnt f n len
  n0 : 128 ≤ n
  n1 : n ≤ 1114112
  d0 : 0 ≤ s.d
  d1 : s.d ≤ 21 * n
  b0 : 0 ≤ s.b
  b1 : s.b ≤ 2000000000
  l1 : s.o.length ≤ 30 + 30000001 * s.h

/-- A round begins. -/
theorem OutB.into {f : Nat → Int} {len : Nat} {n m : Int} {s : PS} (hl : len ≤ 20) (B : OutB f len n s) (hs : s.h < len) (hf : ∀ i, i < len → f i ≤ 1114111) (hm : IsLst f n len m) :
    128 ≤ m ∧ m ≤ 1114111 ∧ n ≤ m ∧ 0 ≤ (m - n) * ((s.h : Int) + 1) ∧ (m - n) * ((s.h : Int) + 1) ≤ 21 * (m - n) ∧ InB f len m 0 ⟨s.h, s.d + (m - n) * ((s.h : Int) + 1), s.b, s.o⟩ := by
  obtain ⟨i, h1, h2⟩ := hm.at'
  have h3 := hf i h1
  have h4 := hm.ge
  have h5 := B.n0
  have p0 : 0 ≤ (m - n) * ((s.h : Int) + 1) := Int.mul_nonneg (by omega) (by omega)
  have p1 : (m - n) * ((s.h : Int) + 1) ≤ (m - n) * 21 := Int.mul_le_mul_of_nonneg_left (by omega) (by omega)
  have hd0 := B.d0
  have hd1 := B.d1
  refine ⟨by omega, by omega, h4, p0, by omega, ?_⟩
  refine ⟨?_, by simp only []; omega, by simp only []; omega, B.b0, B.b1, B.l1⟩
  simp only [cntE]
  rw [cnt_gap h4 hm.gap]
  exact B.h

/-- A round ends. -/
theorem InB.out {f : Nat → Int} {len : Nat} {m : Int} {s : PS} (hl : len ≤ 20) (hm0 : 128 ≤ m) (hm1 : m ≤ 1114111) (B : InB f len m len s) : OutB f len (m + 1) ⟨s.h, s.d + 1, s.b, s.o⟩ :=
  ⟨by rw [cnt_succ]; exact B.h, by omega, by omega, by have := B.d0; simp only []; omega, by have := B.d1; simp only []; omega, B.b0, B.b1, B.l1⟩
end

end Go.Proofs.YtgdjaapjdmancaaGreatDoor
