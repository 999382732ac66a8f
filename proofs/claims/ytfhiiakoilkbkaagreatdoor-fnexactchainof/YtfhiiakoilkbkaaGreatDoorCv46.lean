/- Walks: names and extensions that are right: program and model. Walks: serials, times and seals that are right, of the program. -/
import Derived.Test.YtfhiiakoilkbkaaGreatDoorCv43
import Derived.Test.YtfhiiakoilkbkaaGreatDoorCv45
namespace Go.Proofs.YtfhiiakoilkbkaaGreatDoor
set_option linter.unusedVariables false
set_option linter.unusedSimpArgs false
section
set_option maxRecDepth 100000
open Go.RowKit
def inB (x lo hi : Int) : Bool := decide (lo ≤ x) && decide (x ≤ hi)
theorem inB_yes {x lo hi : Int} (h1 : lo ≤ x) (h2 : x ≤ hi) : inB x lo hi = true := by unfold inB; rw [decide_eq_true h1, decide_eq_true h2]; rfl
theorem inB_no {x lo hi : Int} (h : x < lo ∨ hi < x) : inB x lo hi = false := by
 unfold inB
 rcases h with h | h
 ·rw [decide_eq_false (by omega), Bool.false_and]
 ·rw [decide_eq_false (show ¬ x ≤ hi by omega), Bool.and_false]
theorem l1InB (x lo hi : Int) (w : World) : Calls Tryz.prog 23 #[.int .i64 x, .int .i64 lo, .int .i64 hi] w fun e w' => e = .returned (.bool (inB x lo hi)) ∧ w' = w := l1In_int x lo hi w
theorem inRange_any (x lo hi : Int) (w : World) : Calls Tryz.prog 63 #[.int .i64 x, .int .i64 lo, .int .i64 hi] w fun e w' => e = .returned (.bool (inB x lo hi)) ∧ w' = w := by
 unfold inB
 by_cases h1 : lo ≤ x
 ·by_cases h2 : x ≤ hi
  ·go_enter Tryz.func63, Tryz.ntmps63
   go_wp2
   go_ret
   exact ⟨ret_bool (by simp [h1, h2]), rfl⟩
  ·go_enter Tryz.func63, Tryz.ntmps63
   go_wp2
   go_ret
   exact ⟨ret_bool (by simp [h1, h2]), rfl⟩
 ·go_enter Tryz.func63, Tryz.ntmps63
  go_wp2
  go_ret
  exact ⟨ret_bool (by rw [decide_eq_false (show ¬ lo ≤ x by omega), Bool.false_and]), rfl⟩
def tmB (t : Int) : Bool := inB t (-631152000) 4102444799
theorem l9OkB (t : Int) (w : World) : Calls Tryz.prog 76 #[.int .i64 t] w fun e w' => e = .returned (.bool (tmB t)) ∧ w' = w := by
 have HX := hide (l1InB t (-631152000) 4102444799 w)
 have HV : Hid (tmB t = inB t (-631152000) 4102444799) := rfl
 rw [HV.out]
 generalize inB t (-631152000) 4102444799 = R at *
 clear HV
 go_enter Tryz.func76, Tryz.ntmps76
 go_wp2_with fail
 refine HX.out.mono ?_
 rintro e w1 ⟨rfl, hw⟩
 obtain rfl := hw.symm
 go_wp2
 go_ret
 exact ⟨rfl, rfl⟩
theorem isTimeB (t : Int) (w : World) : Calls Tryz.prog 104 #[.int .i64 t] w fun e w' => e = .returned (.bool (tmB t)) ∧ w' = w := by
 unfold tmB inB
 by_cases h1 : (-631152000 : Int) ≤ t
 ·by_cases h2 : t ≤ 4102444799
  ·go_enter Tryz.func104, Tryz.ntmps104
   go_wp2
   go_ret
   exact ⟨ret_bool (by simp [h1, h2]), rfl⟩
  ·go_enter Tryz.func104, Tryz.ntmps104
   go_wp2
   go_ret
   exact ⟨ret_bool (by simp [h1, h2]), rfl⟩
 ·go_enter Tryz.func104, Tryz.ntmps104
  go_wp2
  go_ret
  exact ⟨ret_bool (by rw [decide_eq_false (show ¬ -631152000 ≤ t by omega), Bool.false_and]), rfl⟩
def byB (x : Nat) : Bool := inB (x : Int) 32 126
def txB (s : ByteArray) : Bool := inB (s.size : Int) 1 40 && allB (fun k => byB (bt s k)) s.size
def nmB (n : Nat) (f : Nat → ByteArray) : Bool := inB (n : Int) 1 4 && allB (fun i => txB (f i)) n
set_option maxHeartbeats 800000 in
theorem textByteOk_any (x : Nat) (hx : x < 256) (w : World) : Calls Tryz.prog 127 #[.int .u8 (x : Int)] w fun e w' => e = .returned (.bool (byB x)) ∧ Ext w w' := by
 have HX := hide (inRange_any (x : Int) 32 126 w)
 have HV : Hid (byB x = inB (x : Int) 32 126) := rfl
 rw [HV.out]
 generalize inB (x : Int) 32 126 = R at *
 clear HV
 go_enter Tryz.func127, Tryz.ntmps127
 go_wp2_with fail
 refine HX.out.mono ?_
 rintro e w1 ⟨rfl, hw⟩
 obtain rfl := hw.symm
 go_wp2
 go_ret
 exact ⟨rfl, Ext.refl _⟩
set_option maxHeartbeats 1600000 in
theorem textOk_any (s : ByteArray) (hs : s.size ≤ 1048576) (w : World) : Calls Tryz.prog 103 #[.string s] w fun e w' => e = .returned (.bool (txB s)) ∧ Ext w w' := by
 have HI := hide (inRange_any (s.size : Int) 1 40 w)
 have HV : Hid (txB s = (inB (s.size : Int) 1 40 && allB (fun k => byB (bt s k)) s.size)) := rfl
 rw [HV.out]
 clear HV
 by_cases h : inB (s.size : Int) 1 40 = true
 ·rw [h] at HI ⊢
  rw [Bool.true_and]
  have hl : s.size ≤ 40 := by
   unfold inB at h
   simp at h
   omega
  have hcv := run_bytes_of_string (P := Tryz.prog) w 9 37 5 s (by kernel_rfl) (by kernel_rfl) (by kernel_rfl)
  have HKb : Hid ((w.drew.alloc (.cells (bytesRow s (grownCap w s.size 0 5)) 5 ((bytesRow s (grownCap w s.size 0 5)).size, (bytesRow s (grownCap w s.size 0 5)).size + 1))).heap[w.heap.size]? = some (.cells (bytesRow s (grownCap w s.size 0 5)) 5 ((bytesRow s (grownCap w s.size 0 5)).size, (bytesRow s (grownCap w s.size 0 5)).size + 1))) := heap_alloc_new w.drew _
  have HE2 : Hid (Ext w (w.drew.alloc (.cells (bytesRow s (grownCap w s.size 0 5)) 5 ((bytesRow s (grownCap w s.size 0 5)).size, (bytesRow s (grownCap w s.size 0 5)).size + 1)))) := Ext.trans (b := w.drew) ⟨rfl, rfl, rfl, Nat.le_refl _, fun _ _ => rfl⟩ (Ext.alloc _ _)
  generalize w.drew.alloc (.cells (bytesRow s (grownCap w s.size 0 5)) 5 ((bytesRow s (grownCap w s.size 0 5)).size, (bytesRow s (grownCap w s.size 0 5)).size + 1)) = w2 at *
  have HA := hide (aokB_any 127 (fun _ _ => by kernel_rfl) (fun k => byB (bt s k)) 40 (some ⟨w.heap.size, 0, none⟩) w.heap.size 0 s.size (grownCap w s.size 0 5) (fun k => .int .u8 (bt s k : Int)) w2
   ⟨fun _ => rfl, fun i hi => by rw [Nat.zero_add]; exact str_cells HKb.out hi⟩ (by omega) (by omega)
   (hide fun i hi W hW => textByteOk_any (bt s i) (bt_lt s i) W))
  rw [decide_eq_true hl, Bool.true_and] at HA
  generalize grownCap w s.size 0 5 = cap at *
  generalize w.heap.size = K at *
  generalize allB (fun k => byB (bt s k)) s.size = R at *
  clear h
  go_enter Tryz.func103, Tryz.ntmps103
  go_wp2_with fail
  refine HI.out.mono ?_
  rintro e w1 ⟨rfl, hw⟩
  obtain rfl := hw.symm
  clear hw
  go_wp2_with fail
  refine HA.out.mono ?_
  rintro e w3 ⟨rfl, hE⟩
  have HE3 := hide hE
  clear hE hcv
  go_wp2
  go_ret
  exact ⟨rfl, Ext.trans HE2.out HE3.out⟩
 ·rw [Bool.not_eq_true] at h
  rw [h] at HI ⊢
  rw [Bool.false_and]
  clear h
  go_enter Tryz.func103, Tryz.ntmps103
  go_wp2_with fail
  refine HI.out.mono ?_
  rintro e w1 ⟨rfl, hw⟩
  obtain rfl := hw.symm
  clear hw
  go_wp2
  go_ret
  exact ⟨rfl, Ext.refl _⟩
theorem nm_alt (n : Nat) (f : Nat → ByteArray) : nmB n f = (decide (0 < n) && (decide (n ≤ 4) && allB (fun i => txB (f i)) n)) := by
 unfold nmB inB
 rw [← Bool.and_assoc]
 congr 1
 by_cases h1 : 0 < n <;> by_cases h2 : n ≤ 4 <;> simp [h1, h2] <;> omega
set_option maxHeartbeats 1600000 in
theorem nameOk_any (p : Plc) (n : Nat) (f : Nat → ByteArray) (w : World) (hs : SSeg w p.ad p.b p.off n f) (hn : n ≤ 1048576) (hf : ∀ i, i < n → (f i).size ≤ 1048576) :
  Calls Tryz.prog 82 #[.slice p.ad n p.cap] w fun e w' => e = .returned (.bool (nmB n f)) ∧ Ext w w' := by
 have HA := hide (aokS_any 103 (fun _ _ => by kernel_rfl) (fun i => txB (f i)) 4 p.ad p.b p.off n p.cap _ w hs.v hn (by omega) (hide fun i hi W hW => textOk_any (f i) (hf i hi) W))
 have HV := hide (nm_alt n f)
 rw [HV.out]
 generalize (decide (n ≤ 4) && allB (fun i => txB (f i)) n) = R at *
 clear HV hs hf
 by_cases h : 0 < n
 ·have h1 : (0 : Int) < (n : Int) := by omega
  rw [decide_eq_true h, Bool.true_and]
  clear h
  go_enter Tryz.func82, Tryz.ntmps82
  go_wp2_with fail
  refine HA.out.mono ?_
  rintro e w1 ⟨rfl, hE⟩
  have HE := hide hE
  clear hE
  go_wp2
  go_ret
  exact ⟨rfl, HE.out⟩
 ·have h1 : ¬ (0 : Int) < (n : Int) := by omega
  rw [decide_eq_false h, Bool.false_and]
  clear h
  go_enter Tryz.func82, Tryz.ntmps82
  go_wp2
  go_ret
  exact ⟨rfl, Ext.refl _⟩
theorem tx_no1 {s : ByteArray} (h : inB (s.size : Int) 1 40 = false) : txB s = false := by unfold txB; rw [h]; rfl
theorem tx_no2 {s : ByteArray} {k : Nat} (hk : k < s.size) (h : byB (bt s k) = false) : txB s = false := by unfold txB; rw [allB_no hk h, Bool.and_false]
theorem tx_yes {s : ByteArray} (h : inB (s.size : Int) 1 40 = true) (k : ∀ j, j < s.size → byB (bt s j) = true) : txB s = true := by unfold txB; rw [h, allB_yes k]; rfl
theorem nm_no {n k : Nat} {f : Nat → ByteArray} (hk : k < n) (h : txB (f k) = false) : nmB n f = false := by unfold nmB; rw [allB_no hk h, Bool.and_false]
theorem nm_yes {n : Nat} {f : Nat → ByteArray} (h : ∀ j, j < n → txB (f j) = true) : nmB n f = inB (n : Int) 1 4 := by unfold nmB; rw [allB_yes h, Bool.and_true]
set_option maxHeartbeats 3200000 in
theorem l10Name_any (p : Plc) (n : Nat) (f : Nat → ByteArray) (w : World) (hs : SSeg w p.ad p.b p.off n f) (hn : n ≤ 1048576) (hf : ∀ i, i < n → (f i).size ≤ 1048576) :
  Calls Tryz.prog 75 #[.slice p.ad n p.cap] w fun e w' => e = .returned (.bool (nmB n f)) ∧ Ext w w' := by
 obtain ⟨a, b, off, cap⟩ := p
 dsimp only at hs ⊢
 have Hs := hide hs
 have Hf := hide hf
 have HL : Hid (∀ W, Calls Tryz.prog 23 #[.int .i64 (n : Int), .int .i64 1, .int .i64 4] W fun e w' => e = .returned (.bool (inB (n : Int) 1 4)) ∧ w' = W) := fun W => l1InB _ _ _ W
 obtain ⟨R, hR⟩ : ∃ R, R = nmB n f := ⟨_, rfl⟩
 rw [← hR]
 have HR := hide hR
 clear hs hf hR
 go_enter Tryz.func75, Tryz.ntmps75
 go_wp2
 go_loopw [3] (fun i wr => ∃ k : Nat, k ≤ n ∧ i = .int .i64 (k : Int) ∧ (∀ j, j < k → txB (f j) = true) ∧ Ext w wr) (fun i _ => n - (intOf i).toNat)
 case atStart => exact ⟨0, Nat.zero_le _, rfl, fun j hj => absurd hj (Nat.not_lt_zero _), Ext.refl _⟩
 case round =>
  obtain ⟨k, hk, rfl, hd, hE⟩ := hrel
  have HD := hide hd
  have HE := hide hE
  clear hd
  by_cases hlt : k < n
  ·have hat := Hs.out.at' (by omega)
   subst hat
   have c1 := (Hs.out.of_all hE).cell k hlt
   have hkn : (k : Int) < (n : Int) := by omega
   have hsz := Hf.out k hlt
   have HX := hide (l1InB ((f k).size : Int) 1 40 wr)
   obtain ⟨s, hs⟩ : ∃ s, f k = s := ⟨_, rfl⟩
   rw [hs] at c1 hsz HX
   have Hk := hide hs
   clear hE hs
   obtain ⟨q, hq⟩ : ∃ q, inB (s.size : Int) 1 40 = q := ⟨_, rfl⟩
   rw [hq] at HX
   have Hq := hide hq
   clear hq
   go_wp2_with fail
   refine HX.out.mono ?_
   rintro e w1 ⟨rfl, hw⟩
   obtain rfl := hw.symm
   clear hw HX
   cases q
   ·go_wp2
    go_ret
    exact ⟨ret_bool (by rw [HR.out, nm_no hlt (by rw [Hk.out]; exact tx_no1 Hq.out)]), HE.out⟩
   ·go_wp2
    go_loopw [4] (fun i wr2 => ∃ j : Nat, j ≤ s.size ∧ i = .int .i64 (j : Int) ∧ (∀ m, m < j → byB (bt s m) = true) ∧ wr2 = wr) (fun i _ => s.size - (intOf i).toNat)
    case atStart => exact ⟨0, Nat.zero_le _, rfl, fun j hj => absurd hj (Nat.not_lt_zero _), rfl⟩
    case round =>
     obtain ⟨j, hj, rfl, hd, hw⟩ := hrel
     obtain rfl := hw.symm
     have HD2 := hide hd
     clear hd hw
     by_cases hjl : j < s.size
     ·have hjn : (j : Int) < (s.size : Int) := by omega
      have hbt := bt_get s j hjl
      have hb2 := bt_lt s j
      have HY := hide (l1InB (bt s j : Int) 32 126 wr)
      obtain ⟨y, hy⟩ : ∃ y, inB (bt s j : Int) 32 126 = y := ⟨_, rfl⟩
      rw [hy] at HY
      have Hy : Hid (byB (bt s j) = y) := hy
      clear hy
      generalize bt s j = B at HY hbt hb2
      go_wp2_with fail
      refine HY.out.mono ?_
      rintro e w1 ⟨rfl, hw⟩
      obtain rfl := hw.symm
      clear hw HY
      cases y
      ·go_wp2
       go_ret
       exact ⟨ret_bool (by rw [HR.out, nm_no hlt (by rw [Hk.out]; exact tx_no2 hjl Hy.out)]), HE.out⟩
      ·go_wp2
       go_roundw
       case rel => exact ⟨j + 1, by omega, by go_num, fun m hm => by
              by_cases e : m = j
              ·subst e; exact Hy.out
              ·exact HD2.out m (by omega), trivial⟩
       case measure => simp [intOf]; omega
     ·obtain rfl : j = s.size := by omega
      go_wp2
      go_roundw
      case rel => exact ⟨k + 1, by omega, by go_num, fun m hm => by
             by_cases e : m = k
             ·subst e; rw [Hk.out]; exact tx_yes Hq.out HD2.out
             ·exact HD.out m (by omega), HE.out⟩
      case measure => simp [intOf]; omega
  ·obtain rfl : k = n := by omega
   have HLx := hide (HL.out wr)
   have Hn : Hid (R = inB (k : Int) 1 4) := hide (by rw [HR.out, nm_yes HD.out])
   generalize inB (k : Int) 1 4 = Q at HLx Hn
   clear hE HL
   go_wp2_with fail
   refine HLx.out.mono ?_
   rintro e w1 ⟨rfl, hw⟩
   obtain rfl := hw.symm
   clear hw
   go_wp2
   go_ret
   exact ⟨ret_bool (by rw [Hn.out]), HE.out⟩
def lsB (p : Nat → Bool) (n : Nat) : Bool := decide (n ≤ 6) && allB p n
set_option maxHeartbeats 3200000 in
theorem l10Hosts_any (pat : Bool) (P : ByteArray → Bool) (p : Plc) (n : Nat) (f : Nat → ByteArray) (w : World) (hs : SSeg w p.ad p.b p.off n f) (hn : n ≤ 1048576)
  (HA : Hid (pat = true → ∀ i, i < n → ∀ W, Calls Tryz.prog 122 #[.string (f i)] W fun e w' => e = .returned (.bool (P (f i))) ∧ Ext W w'))
  (HB : Hid (pat = false → ∀ i, i < n → ∀ W, Calls Tryz.prog 123 #[.string (f i)] W fun e w' => e = .returned (.bool (P (f i))) ∧ Ext W w')) :
  Calls Tryz.prog 99 #[.slice p.ad n p.cap, .bool pat] w fun e w' => e = .returned (.bool (lsB (fun i => P (f i)) n)) ∧ Ext w w' := by
 obtain ⟨a, b, off, cap⟩ := p
 dsimp only at hs ⊢
 have Hs := hide hs
 obtain ⟨R, hR⟩ : ∃ R, R = lsB (fun i => P (f i)) n := ⟨_, rfl⟩
 rw [← hR]
 have HR := hide hR
 clear hs hR
 go_enter Tryz.func99, Tryz.ntmps99
 go_wp2
 go_loopw [5] (fun i wr => ∃ k : Nat, k ≤ n ∧ i = .int .i64 (k : Int) ∧ (∀ j, j < k → P (f j) = true) ∧ Ext w wr) (fun i _ => n - (intOf i).toNat)
 case atStart => exact ⟨0, Nat.zero_le _, rfl, fun j hj => absurd hj (Nat.not_lt_zero _), Ext.refl _⟩
 case round =>
  obtain ⟨k, hk, rfl, hd, hE⟩ := hrel
  have HD := hide hd
  have HE := hide hE
  clear hd
  by_cases hlt : k < n
  ·have hat := Hs.out.at' (by omega)
   subst hat
   have c1 := (Hs.out.of_all hE).cell k hlt
   have hkn : (k : Int) < (n : Int) := by omega
   obtain ⟨q, hq⟩ : ∃ q, P (f k) = q := ⟨_, rfl⟩
   have Hq := hide hq
   clear hE
   cases pat
   ·have HX := hide (HB.out rfl k hlt wr)
    rw [hq] at HX
    clear hq HA HB
    go_wp2_with fail
    refine HX.out.mono ?_
    rintro e w1 ⟨rfl, hE1⟩
    have HE1 := hide hE1
    clear hE1 HX
    cases q
    ·go_wp2
     go_ret
     exact ⟨ret_bool (by rw [HR.out]; unfold lsB; rw [allB_no hlt Hq.out, Bool.and_false]), Ext.trans HE.out HE1.out⟩
    ·go_wp2
     go_roundw
     case rel => exact ⟨k + 1, by omega, by go_num, fun m hm => by
            by_cases e : m = k
            ·subst e; exact Hq.out
            ·exact HD.out m (by omega), Ext.trans HE.out HE1.out⟩
     case measure => simp [intOf]; omega
   ·have HX := hide (HA.out rfl k hlt wr)
    rw [hq] at HX
    clear hq HA HB
    go_wp2_with fail
    refine HX.out.mono ?_
    rintro e w1 ⟨rfl, hE1⟩
    have HE1 := hide hE1
    clear hE1 HX
    cases q
    ·go_wp2
     go_ret
     exact ⟨ret_bool (by rw [HR.out]; unfold lsB; rw [allB_no hlt Hq.out, Bool.and_false]), Ext.trans HE.out HE1.out⟩
    ·go_wp2
     go_roundw
     case rel => exact ⟨k + 1, by omega, by go_num, fun m hm => by
            by_cases e : m = k
            ·subst e; exact Hq.out
            ·exact HD.out m (by omega), Ext.trans HE.out HE1.out⟩
     case measure => simp [intOf]; omega
  ·obtain rfl : k = n := by omega
   have Hn : Hid (R = decide (k ≤ 6)) := hide (by rw [HR.out]; unfold lsB; rw [allB_yes HD.out, Bool.and_true])
   clear hE HA HB
   by_cases h6 : k ≤ 6
   ·rw [decide_eq_true h6] at Hn
    have g6 : (k : Int) ≤ 6 := by omega
    clear h6
    go_wp2
    go_ret
    exact ⟨ret_bool (by rw [Hn.out] <;> simp [g6]), HE.out⟩
   ·rw [decide_eq_false h6] at Hn
    have g6 : ¬ (k : Int) ≤ 6 := by omega
    clear h6
    go_wp2
    go_ret
    exact ⟨ret_bool (by rw [Hn.out] <;> simp <;> omega), HE.out⟩
def ppB (x : Int) : Bool := inB x 1 1000
theorem purposeOk_any (x : Int) (w : World) : Calls Tryz.prog 110 #[.int .i64 x] w fun e w' => e = .returned (.bool (ppB x)) ∧ Ext w w' := by
 have HX := hide (inRange_any x 1 1000 w)
 have HV : Hid (ppB x = inB x 1 1000) := rfl
 rw [HV.out]
 generalize inB x 1 1000 = R at *
 clear HV
 go_enter Tryz.func110, Tryz.ntmps110
 go_wp2_with fail
 refine HX.out.mono ?_
 rintro e w1 ⟨rfl, hw⟩
 obtain rfl := hw.symm
 go_wp2
 go_ret
 exact ⟨rfl, Ext.refl _⟩
def upB (f : Nat → Int) (i : Nat) : Bool := decide (i = 0) || decide (f (i - 1) < f i)
theorem up0 (f : Nat → Int) {j : Nat} (h : j < 1) : upB f j = true := by
 obtain rfl : j = 0 := (by omega)
 rfl
set_option maxHeartbeats 1600000 in
theorem isRising_any (p : Plc) (n : Nat) (f : Nat → Int) (w : World) (hs : Seg w p.ad p.b p.off n f) (hn : n ≤ 1048576) :
  Calls Tryz.prog 111 #[.slice p.ad n p.cap] w fun e w' => e = .returned (.bool (allB (upB f) n)) ∧ Ext w w' := by
 obtain ⟨a, b, off, cap⟩ := p
 dsimp only at hs ⊢
 have Hs := hide hs
 obtain ⟨R, hR⟩ : ∃ R, R = allB (upB f) n := ⟨_, rfl⟩
 rw [← hR]
 have HR := hide hR
 clear hs hR
 go_enter Tryz.func111, Tryz.ntmps111
 go_wp2
 go_loopw [3] (fun i wr => ∃ k : Nat, (k ≤ n ∨ k = 1) ∧ 1 ≤ k ∧ i = .int .i64 (k : Int) ∧ (∀ j, j < k → upB f j = true) ∧ Ext w wr) (fun i _ => n - (intOf i).toNat)
 case atStart => exact ⟨1, .inr rfl, Nat.le_refl _, rfl, fun j hj => up0 f hj, Ext.refl _⟩
 case round =>
  obtain ⟨k, hk, hk1, rfl, hd, hE⟩ := hrel
  have HD := hide hd
  have HE := hide hE
  clear hd
  by_cases hlt : k < n
  ·have hat := Hs.out.at' (by omega)
   subst hat
   obtain ⟨m, rfl⟩ : ∃ m, k = m + 1 := ⟨k - 1, by omega⟩
   have c1 := (Hs.out.of_all hE).cell m (by omega)
   have c2 := (Hs.out.of_all hE).cell (m + 1) hlt
   have hkn : (m : Int) + 1 < (n : Int) := by omega
   have hkm : (m : Int) < (n : Int) := by omega
   have hw1 : wrap64 ((m : Int) + 1 - 1) = m := by unfold wrap64; omega
   have hw2 : IntKind.i64.wrap ((m : Int) + 1 - 1) = m := by rw [IntKind.wrap_i64]; omega
   have Hup : Hid (upB f (m + 1) = decide (f m < f (m + 1))) := hide (by unfold upB; simp)
   generalize f m = x at c1 Hup
   generalize f (m + 1) = y at c2 Hup
   clear hE hk hk1
   by_cases hxy : x < y
   ·have hd1 : decide (y ≤ x) = false := decide_eq_false (by omega)
    rw [decide_eq_true hxy] at Hup
    clear hxy
    go_wp2
    go_quiet (fail)
    go_wp2
    go_roundw
    case rel => exact ⟨m + 1 + 1, by omega, by omega, by go_num, fun j hj => by
           by_cases e : j = m + 1
           ·subst e; exact Hup.out
           ·exact HD.out j (by omega), below_drewN HE.out _⟩
    case measure => simp [intOf]; omega
   ·have hd1 : decide (y ≤ x) = true := decide_eq_true (by omega)
    rw [decide_eq_false hxy] at Hup
    clear hxy
    go_wp2
    go_quiet (fail)
    go_wp2
    go_ret
    exact ⟨ret_bool (by rw [HR.out, allB_no hlt Hup.out]), below_drewN HE.out _⟩
  ·have g : ¬ (k : Int) < (n : Int) := by omega
   have Hk := hide hk
   clear hE hk
   go_wp2
   go_ret
   exact ⟨ret_bool (by rw [HR.out, allB_yes (fun j hj => HD.out j (by omega))]), HE.out⟩
def pathB (x : Ex) : Bool := decide (x.path = -1) || (x.ca && inB x.path 0 10)
def exB (x : Ex) : Bool := pathB x && (inB x.usage 0 7 && (lsB (fun i => patB (x.fh i)) x.nh && (lsB (fun i => fourB (x.ln i) (x.fn i)) x.nn && (lsB (fun i => hostB (x.fa i)) x.na && (lsB (fun i => hostB (x.fd i)) x.nd && (lsB (fun i => ppB (x.fp i)) x.np && allB (upB x.fp) x.np))))))
set_option maxHeartbeats 1600000 in
theorem pathOk_any (x : Ex) (m : ExPl) (w : World) : Calls Tryz.prog 105 #[.agg (exL x m).toArray] w fun e w' => e = .returned (.bool (pathB x)) ∧ Ext w w' := by
 obtain ⟨V, hV⟩ : ∃ V, w.alloc (.cells (exL x m).toArray 52) = V := ⟨_, rfl⟩
 obtain ⟨B0, hE, hl⟩ := box1 w (exL x m) 52 (w1 := V) (by rw [← hV]; exact Ext.refl _)
 have c0 := (B0 0 _ rfl).1
 have c1 := (B0 1 _ rfl).1
 have HE := hide hE
 have HX := hide (inRange_any x.path 0 10 V)
 have HV : Hid (pathB x = (decide (x.path = -1) || (x.ca && inB x.path 0 10))) := rfl
 rw [HV.out]
 clear HV B0 hE hl
 generalize inB x.path 0 10 = Q at *
 generalize x.ca = ca at *
 generalize x.path = pt at *
 by_cases h1 : pt = -1
 ·have g1 : (pt == -1) = true := by simp [h1]
  rw [decide_eq_true h1, Bool.true_or]
  have H1 := hide h1
  clear h1
  go_enter Tryz.func105, Tryz.ntmps105
  go_wp2
  go_ret
  exact ⟨rfl, HE.out⟩
 ·have g1 : (pt == -1) = false := by simp [h1]
  rw [decide_eq_false h1, Bool.false_or]
  have H1 := hide h1
  clear h1
  cases ca
  ·go_enter Tryz.func105, Tryz.ntmps105
   go_wp2
   go_ret
   exact ⟨rfl, HE.out⟩
  ·go_enter Tryz.func105, Tryz.ntmps105
   go_wp2_with fail
   refine HX.out.mono ?_
   rintro e w1 ⟨rfl, hw⟩
   obtain rfl := hw.symm
   clear hw
   go_wp2
   go_ret
   exact ⟨rfl, HE.out⟩
end
section
set_option maxRecDepth 100000
open Go.RowKit
def tsB (fr to : Int) : Bool := tmB fr && (tmB to && decide (fr ≤ to))
def slB (alg : Int) (ng : Nat) : Bool := inB alg 1 4 && inB (ng : Int) 1 64
theorem allB_and (p q : Nat → Bool) (n : Nat) : allB (fun i => p i && q i) n = (allB p n && allB q n) := by
 cases e : allB (fun i => p i && q i) n
 ·cases e1 : allB p n
  ·rfl
  ·cases e2 : allB q n
   ·rfl
   ·rw [allB_yes (fun j hj => by rw [allB_iff.1 e1 j hj, allB_iff.1 e2 j hj]; rfl)] at e
    cases e
 ·have h := allB_iff.1 e
  rw [allB_yes (fun j hj => by have := h j hj; rw [Bool.and_eq_true] at this; exact this.1), allB_yes (fun j hj => by have := h j hj; rw [Bool.and_eq_true] at this; exact this.2)]
  rfl
theorem serialOk_any (x : Int) (w : World) : Calls Tryz.prog 81 #[.int .i64 x] w fun e w' => e = .returned (.bool (inB x 1 1000000000000000)) ∧ Ext w w' := by
 have HX := hide (inRange_any x 1 1000000000000000 w)
 generalize inB x 1 1000000000000000 = R at *
 go_enter Tryz.func81, Tryz.ntmps81
 go_wp2_with fail
 refine HX.out.mono ?_
 rintro e w1 ⟨rfl, hw⟩
 obtain rfl := hw.symm
 go_wp2
 go_ret
 exact ⟨rfl, Ext.refl _⟩
theorem timesOk_any (fr to : Int) (w : World) : Calls Tryz.prog 83 #[.int .i64 fr, .int .i64 to] w fun e w' => e = .returned (.bool (tsB fr to)) ∧ Ext w w' := by
 have H1 := hide (isTimeB fr w)
 have H2 := hide (isTimeB to w)
 have HV : Hid (tsB fr to = (tmB fr && (tmB to && decide (fr ≤ to)))) := rfl
 obtain ⟨R, hR⟩ : ∃ R, tsB fr to = R := ⟨_, rfl⟩
 rw [hR] at HV ⊢
 clear hR
 obtain ⟨q1, hq1⟩ : ∃ q, tmB fr = q := ⟨_, rfl⟩
 obtain ⟨q2, hq2⟩ : ∃ q, tmB to = q := ⟨_, rfl⟩
 rw [hq1] at H1 HV
 rw [hq2] at H2 HV
 clear hq1 hq2
 go_enter Tryz.func83, Tryz.ntmps83
 go_wp2_with fail
 refine H1.out.mono ?_
 rintro e w1 ⟨rfl, hw⟩
 obtain rfl := hw.symm
 clear hw
 cases q1
 ·go_wp2
  go_ret
  exact ⟨ret_bool (by rw [HV.out]; rfl), Ext.refl _⟩
 go_wp2_with fail
 refine H2.out.mono ?_
 rintro e w2 ⟨rfl, hw⟩
 obtain rfl := hw.symm
 clear hw
 cases q2
 ·go_wp2
  go_ret
  exact ⟨ret_bool (by rw [HV.out]; rfl), Ext.refl _⟩
 go_wp2
 go_ret
 exact ⟨ret_bool (by rw [HV.out]; rfl), Ext.refl _⟩
theorem sealOk_any (alg : Int) (a : Option Addr) (ng cap : Nat) (w : World) : Calls Tryz.prog 84 #[.int .i64 alg, .slice a ng cap] w fun e w' => e = .returned (.bool (slB alg ng)) ∧ Ext w w' := by
 have H1 := hide (inRange_any alg 1 4 w)
 have H2 := hide (inRange_any (ng : Int) 1 64 w)
 have HV : Hid (slB alg ng = (inB alg 1 4 && inB (ng : Int) 1 64)) := rfl
 obtain ⟨R, hR⟩ : ∃ R, slB alg ng = R := ⟨_, rfl⟩
 rw [hR] at HV ⊢
 clear hR
 obtain ⟨q1, hq1⟩ : ∃ q, inB alg 1 4 = q := ⟨_, rfl⟩
 obtain ⟨q2, hq2⟩ : ∃ q, inB (ng : Int) 1 64 = q := ⟨_, rfl⟩
 rw [hq1] at H1 HV
 rw [hq2] at H2 HV
 clear hq1 hq2
 go_enter Tryz.func84, Tryz.ntmps84
 go_wp2_with fail
 refine H1.out.mono ?_
 rintro e w1 ⟨rfl, hw⟩
 obtain rfl := hw.symm
 clear hw
 cases q1
 ·go_wp2
  go_ret
  exact ⟨ret_bool (by rw [HV.out]; rfl), Ext.refl _⟩
 go_wp2_with fail
 refine H2.out.mono ?_
 rintro e w2 ⟨rfl, hw⟩
 obtain rfl := hw.symm
 clear hw
 go_wp2
 go_ret
 exact ⟨ret_bool (by rw [HV.out]; rfl), Ext.refl _⟩
end
end Go.Proofs.YtfhiiakoilkbkaaGreatDoor
