/- Walks: texts as names are compared, NameSame of both. Walks: parts of a text, labels, HostOk of both. Walks: labels and HostOk of both. Walks: HostOk of both, digits. Walks: PatternOk, HostMatch, Under of both. Walks: names and extensions that are right: program and model. Walks: texts as items and as pieces. Walks: the program reads numbers, texts and bits out of pieces. Walks: Under of both. Plain facts: what a star matches, hosts under each other. Nothing of the program. -/
import Derived.Lib.Strings
import Derived.Laws.Rows
import Derived.Laws.AppendOwn
import Derived.Laws.CopyRow
import Derived.RowKit
import Derived.Lib.SmallJoins
import Derived.Lib.Bytealg
import Derived.Deep.RegionWith
import Derived.Test.YtkogbinfhoiggaaGreatDoorCx30
namespace Go.Proofs.YtkogbinfhoiggaaGreatDoor
set_option linter.unusedVariables false
set_option linter.unusedSimpArgs false
section
open Go.RowKit
theorem str_cells {w : World} {K cap i : Nat} {s : ByteArray} {x : Nat × Nat} (h : w.heap[K]? = some (.cells (bytesRow s cap) 5 x)) (hi : i < s.size) : w.cell? ⟨K, i, none⟩ = some (.int .u8 (bt s i)) := by
 simp only [World.cell?, h]
 have : (bytesRow s cap)[i]? = some (.int .u8 (bt s i)) := by
  unfold bytesRow
  rw [Array.getElem?_append_left (by simpa using hi)]
  rw [Array.getElem?_map, Array.getElem?_eq_getElem (by simpa using hi)]
  simp only [Option.map_some]
  rw [← bt_get s i hi]
  rfl
 simpa using this
def nth (L : List ByteArray) (i : Nat) : ByteArray := L.getD i ⟨#[]⟩
def strs (L : List ByteArray) : List Value := L.map .string
theorem strs_one (s : ByteArray) : ∀ u ∈ [Value.string s], u.oneCell' = true := by
 intro u hu
 simp at hu
 subst hu
 rfl
theorem strs_step {acc : List ByteArray} {w wr w1 : World} {v v' : Value} {o : Obj} {x : ByteArray} (hO : wr.ownsRow w.heap.size 9 1 v acc.length (strs acc)) (hE : Ext w wr)
  (hown : w1.ownsRow w.heap.size 9 1 v' (acc.length + 1) (strs acc ++ [.string x])) (hg : (wr.alloc o).grownBy w1 v.ownBlock) : w1.ownsRow w.heap.size 9 1 v' (acc ++ [x]).length (strs (acc ++ [x])) ∧ Ext w w1 := by
 refine ⟨?_, (Below.alloc hE (Below.size hE) o).grown hg (by have := Below.size hE; simp; omega) (fun j hj => (hO.lt j hj).1)⟩
 simpa [strs] using hown
def allN (P : Nat → Bool) (s : ByteArray) : Nat → Bool
 | 0 => true
 | n + 1 => allN P s n && P (bt s n)
theorem allN_iff (P : Nat → Bool) (s : ByteArray) (n : Nat) : allN P s n = true ↔ ∀ i, i < n → P (bt s i) = true := by
 induction n with
 | zero => simp [allN]
 | succ n ih =>
  rw [allN, Bool.and_eq_true, ih]
  constructor
  ·rintro ⟨h, h0⟩ i hi
   by_cases e : i = n
   ·subst e; exact h0
   ·exact h i (by omega)
  ·intro h
   exact ⟨fun i hi => h i (by omega), h n (by omega)⟩
theorem allN_false {P : Nat → Bool} {s : ByteArray} {n k : Nat} (hk : k < n) (h : P (bt s k) = false) : allN P s n = false := by
 cases e : allN P s n with
 | false => rfl
 | true => rw [(allN_iff P s n).1 e k hk] at h; cases h
def dgB (c : Nat) : Bool := decide (48 ≤ c) && decide (c ≤ 57)
def digB (s : ByteArray) : Bool := allN dgB s s.size
theorem dgB_i (c : Nat) : (decide (48 ≤ (c : Int)) && decide ((c : Int) ≤ 57)) = dgB c := by
 unfold dgB
 congr 1 <;> · apply decide_eq_decide.2; omega
theorem digB_no {s : ByteArray} {k : Nat} (hk : k < s.size) (h : dgB (bt s k) = false) : digB s = false := allN_false hk h
set_option maxHeartbeats 800000 in
set_option maxRecDepth 100000 in
theorem l8Digits_any (s : ByteArray) (hs : s.size ≤ 1048576) (w : World) :
  Calls Tryz.prog 39 #[.string s] w fun e w' => e = .returned (.bool (digB s && decide (0 < s.size))) ∧ w' = w := by
 go_enter Tryz.func39, Tryz.ntmps39
 go_wp2
 go_loop [3] (fun i => ∃ k : Nat, k ≤ s.size ∧ i = .int .i64 k ∧ ∀ j, j < k → dgB (bt s j) = true) (fun i => s.size - (intOf i).toNat)
 case atStart => exact ⟨0, Nat.zero_le _, rfl, fun j hj => absurd hj (Nat.not_lt_zero _)⟩
 case round =>
  obtain ⟨k, hk, rfl, hd⟩ := hrel
  have HD := hide hd
  clear hd
  by_cases hlt : k < s.size
  ·have hb := bt_get s k hlt
   have hkn : (k : Int) < (s.size : Int) := by omega
   have h2 := bt_lt s k
   have HC : Hid (∀ b, dgB (bt s k) = b → (b = true → ∀ j, j < k + 1 → dgB (bt s j) = true) ∧ (b = false → digB s = false)) := by
    intro b hb
    refine ⟨fun h j hj => ?_, fun h => digB_no hlt (hb.trans h)⟩
    by_cases e : j = k
    ·subst e; exact hb.trans h
    ·exact HD.out j (by omega)
   clear HD
   generalize bt s k = c at *
   have H2 := hide (dgB_i c)
   cases e2 : dgB c
   ·have hb2 : (decide (48 ≤ (c : Int)) && decide ((c : Int) ≤ 57)) = false := H2.out.trans e2
    have HK := hide ((HC.out false e2).2 rfl)
    clear HC H2 e2
    go_wp2_with (go_at_call 64; refine (l1In_any _ _ _ _).mono ?_; rintro e w' ⟨rfl, rfl⟩)
    go_ret
    exact ⟨ret_bool (by rw [HK.out]; rfl), rfl⟩
   ·have hb2 : (decide (48 ≤ (c : Int)) && decide ((c : Int) ≤ 57)) = true := H2.out.trans e2
    have HK := hide ((HC.out true e2).1 rfl)
    clear HC H2 e2
    go_wp2_with (go_at_call 64; refine (l1In_any _ _ _ _).mono ?_; rintro e w' ⟨rfl, rfl⟩)
    go_round
    case rel => exact ⟨k + 1, by omega, by go_num, HK.out⟩
    case measure => simp [intOf]; omega
  ·obtain rfl : k = s.size := by omega
   have HF : Hid (digB s = true) := (allN_iff _ _ _).2 HD.out
   clear HD
   go_wp2
   go_ret
   refine ⟨ret_bool ?_, rfl⟩
   rw [HF.out, Bool.true_and]
   first | done | (apply decide_eq_decide.2; omega)
theorem bt_list (s : ByteArray) (i : Nat) (h : i < s.data.toList.length) : (s.data.toList[i]'h).toNat = bt s i := by
 have h' : i < s.size := by rw [Lib.size_eq]; exact h
 rw [← bt_get s i h']
 rfl
end
section
set_option maxRecDepth 100000
open Go.RowKit
def inB (x lo hi : Int) : Bool := decide (lo ≤ x) && decide (x ≤ hi)
theorem inB_no {x lo hi : Int} (h : x < lo ∨ hi < x) : inB x lo hi = false := by
 unfold inB
 rcases h with h | h
 ·rw [decide_eq_false (by omega), Bool.false_and]
 ·rw [decide_eq_false (show ¬ x ≤ hi by omega), Bool.and_false]
theorem l1InB (x lo hi : Int) (w : World) : Calls Tryz.prog 64 #[.int .i64 x, .int .i64 lo, .int .i64 hi] w fun e w' => e = .returned (.bool (inB x lo hi)) ∧ w' = w := l1In_int x lo hi w
theorem inRange_any (x lo hi : Int) (w : World) : Calls Tryz.prog 120 #[.int .i64 x, .int .i64 lo, .int .i64 hi] w fun e w' => e = .returned (.bool (inB x lo hi)) ∧ w' = w := by
 unfold inB
 by_cases h1 : lo ≤ x
 ·by_cases h2 : x ≤ hi
  ·go_enter Tryz.func120, Tryz.ntmps120
   go_wp2
   go_ret
   exact ⟨ret_bool (by simp [h1, h2]), rfl⟩
  ·go_enter Tryz.func120, Tryz.ntmps120
   go_wp2
   go_ret
   exact ⟨ret_bool (by simp [h1, h2]), rfl⟩
 ·go_enter Tryz.func120, Tryz.ntmps120
  go_wp2
  go_ret
  exact ⟨ret_bool (by rw [decide_eq_false (show ¬ lo ≤ x by omega), Bool.false_and]), rfl⟩
def tmB (t : Int) : Bool := inB t (-631152000) 4102444799
theorem l9OkB (t : Int) (w : World) : Calls Tryz.prog 69 #[.int .i64 t] w fun e w' => e = .returned (.bool (tmB t)) ∧ w' = w := by
 have HX := hide (l1InB t (-631152000) 4102444799 w)
 have HV : Hid (tmB t = inB t (-631152000) 4102444799) := rfl
 rw [HV.out]
 generalize inB t (-631152000) 4102444799 = R at *
 clear HV
 go_enter Tryz.func69, Tryz.ntmps69
 go_wp2_with fail
 refine HX.out.mono ?_
 rintro e w1 ⟨rfl, hw⟩
 obtain rfl := hw.symm
 go_wp2
 go_ret
 exact ⟨rfl, rfl⟩
theorem isTimeB (t : Int) (w : World) : Calls Tryz.prog 119 #[.int .i64 t] w fun e w' => e = .returned (.bool (tmB t)) ∧ w' = w := by
 unfold tmB inB
 by_cases h1 : (-631152000 : Int) ≤ t
 ·by_cases h2 : t ≤ 4102444799
  ·go_enter Tryz.func119, Tryz.ntmps119
   go_wp2
   go_ret
   exact ⟨ret_bool (by simp [h1, h2]), rfl⟩
  ·go_enter Tryz.func119, Tryz.ntmps119
   go_wp2
   go_ret
   exact ⟨ret_bool (by simp [h1, h2]), rfl⟩
 ·go_enter Tryz.func119, Tryz.ntmps119
  go_wp2
  go_ret
  exact ⟨ret_bool (by rw [decide_eq_false (show ¬ -631152000 ≤ t by omega), Bool.false_and]), rfl⟩
def byB (x : Nat) : Bool := inB (x : Int) 32 126
def txB (s : ByteArray) : Bool := inB (s.size : Int) 1 40 && allB (fun k => byB (bt s k)) s.size
def nmB (n : Nat) (f : Nat → ByteArray) : Bool := inB (n : Int) 1 4 && allB (fun i => txB (f i)) n
set_option maxHeartbeats 800000 in
theorem textByteOk_any (x : Nat) (hx : x < 256) (w : World) : Calls Tryz.prog 142 #[.int .u8 (x : Int)] w fun e w' => e = .returned (.bool (byB x)) ∧ Ext w w' := by
 have HX := hide (inRange_any (x : Int) 32 126 w)
 have HV : Hid (byB x = inB (x : Int) 32 126) := rfl
 rw [HV.out]
 generalize inB (x : Int) 32 126 = R at *
 clear HV
 go_enter Tryz.func142, Tryz.ntmps142
 go_wp2_with fail
 refine HX.out.mono ?_
 rintro e w1 ⟨rfl, hw⟩
 obtain rfl := hw.symm
 go_wp2
 go_ret
 exact ⟨rfl, Ext.refl _⟩
set_option maxHeartbeats 1600000 in
theorem textOk_any (s : ByteArray) (hs : s.size ≤ 1048576) (w : World) : Calls Tryz.prog 118 #[.string s] w fun e w' => e = .returned (.bool (txB s)) ∧ Ext w w' := by
 have HI := hide (inRange_any (s.size : Int) 1 40 w)
 have HV : Hid (txB s = (inB (s.size : Int) 1 40 && allB (fun k => byB (bt s k)) s.size)) := rfl
 rw [HV.out]
 clear HV
 by_cases h : inB (s.size : Int) 1 40 = true
 ·rw [h] at HI ⊢
  rw [Bool.true_and]
  have hl : s.size ≤ 40 := by
   unfold inB at h
   simp at h
   omega
  have hcv := run_bytes_of_string (P := Tryz.prog) w 9 22 5 s (by kernel_rfl) (by kernel_rfl) (by kernel_rfl)
  have HKb : Hid ((w.drew.alloc (.cells (bytesRow s (grownCap w s.size 0 5)) 5 ((bytesRow s (grownCap w s.size 0 5)).size, (bytesRow s (grownCap w s.size 0 5)).size + 1))).heap[w.heap.size]? = some (.cells (bytesRow s (grownCap w s.size 0 5)) 5 ((bytesRow s (grownCap w s.size 0 5)).size, (bytesRow s (grownCap w s.size 0 5)).size + 1))) := heap_alloc_new w.drew _
  have HE2 : Hid (Ext w (w.drew.alloc (.cells (bytesRow s (grownCap w s.size 0 5)) 5 ((bytesRow s (grownCap w s.size 0 5)).size, (bytesRow s (grownCap w s.size 0 5)).size + 1)))) := Ext.trans (b := w.drew) ⟨rfl, rfl, rfl, Nat.le_refl _, fun _ _ => rfl⟩ (Ext.alloc _ _)
  generalize w.drew.alloc (.cells (bytesRow s (grownCap w s.size 0 5)) 5 ((bytesRow s (grownCap w s.size 0 5)).size, (bytesRow s (grownCap w s.size 0 5)).size + 1)) = w2 at *
  have HA := hide (aokB_any 142 (fun _ _ => by kernel_rfl) (fun k => byB (bt s k)) 40 (some ⟨w.heap.size, 0, none⟩) w.heap.size 0 s.size (grownCap w s.size 0 5) (fun k => .int .u8 (bt s k : Int)) w2
   ⟨fun _ => rfl, fun i hi => by rw [Nat.zero_add]; exact str_cells HKb.out hi⟩ (by omega) (by omega)
   (hide fun i hi W hW => textByteOk_any (bt s i) (bt_lt s i) W))
  rw [decide_eq_true hl, Bool.true_and] at HA
  generalize grownCap w s.size 0 5 = cap at *
  generalize w.heap.size = K at *
  generalize allB (fun k => byB (bt s k)) s.size = R at *
  clear h
  go_enter Tryz.func118, Tryz.ntmps118
  go_wp2_with fail
  refine HI.out.mono ?_
  rintro e w1 ⟨rfl, hw⟩
  obtain rfl := hw.symm
  clear hw
  go_wp2_with fail
  refine HA.out.mono ?_
  rintro e w3 ⟨rfl, hE⟩
  have HE3 := hide hE
  clear hE hcv
  go_wp2
  go_ret
  exact ⟨rfl, Ext.trans HE2.out HE3.out⟩
 ·rw [Bool.not_eq_true] at h
  rw [h] at HI ⊢
  rw [Bool.false_and]
  clear h
  go_enter Tryz.func118, Tryz.ntmps118
  go_wp2_with fail
  refine HI.out.mono ?_
  rintro e w1 ⟨rfl, hw⟩
  obtain rfl := hw.symm
  clear hw
  go_wp2
  go_ret
  exact ⟨rfl, Ext.refl _⟩
theorem nm_alt (n : Nat) (f : Nat → ByteArray) : nmB n f = (decide (0 < n) && (decide (n ≤ 4) && allB (fun i => txB (f i)) n)) := by
 unfold nmB inB
 rw [← Bool.and_assoc]
 congr 1
 by_cases h1 : 0 < n <;> by_cases h2 : n ≤ 4 <;> simp [h1, h2] <;> omega
set_option maxHeartbeats 1600000 in
theorem nameOk_any (p : Plc) (n : Nat) (f : Nat → ByteArray) (w : World) (hs : SSeg w p.ad p.b p.off n f) (hn : n ≤ 1048576) (hf : ∀ i, i < n → (f i).size ≤ 1048576) :
  Calls Tryz.prog 90 #[.slice p.ad n p.cap] w fun e w' => e = .returned (.bool (nmB n f)) ∧ Ext w w' := by
 have HA := hide (aokS_any 118 (fun _ _ => by kernel_rfl) (fun i => txB (f i)) 4 p.ad p.b p.off n p.cap _ w hs.v hn (by omega) (hide fun i hi W hW => textOk_any (f i) (hf i hi) W))
 have HV := hide (nm_alt n f)
 rw [HV.out]
 generalize (decide (n ≤ 4) && allB (fun i => txB (f i)) n) = R at *
 clear HV hs hf
 by_cases h : 0 < n
 ·have h1 : (0 : Int) < (n : Int) := by omega
  rw [decide_eq_true h, Bool.true_and]
  clear h
  go_enter Tryz.func90, Tryz.ntmps90
  go_wp2_with fail
  refine HA.out.mono ?_
  rintro e w1 ⟨rfl, hE⟩
  have HE := hide hE
  clear hE
  go_wp2
  go_ret
  exact ⟨rfl, HE.out⟩
 ·have h1 : ¬ (0 : Int) < (n : Int) := by omega
  rw [decide_eq_false h, Bool.false_and]
  clear h
  go_enter Tryz.func90, Tryz.ntmps90
  go_wp2
  go_ret
  exact ⟨rfl, Ext.refl _⟩
theorem tx_no1 {s : ByteArray} (h : inB (s.size : Int) 1 40 = false) : txB s = false := by unfold txB; rw [h]; rfl
theorem tx_no2 {s : ByteArray} {k : Nat} (hk : k < s.size) (h : byB (bt s k) = false) : txB s = false := by unfold txB; rw [allB_no hk h, Bool.and_false]
theorem tx_yes {s : ByteArray} (h : inB (s.size : Int) 1 40 = true) (k : ∀ j, j < s.size → byB (bt s j) = true) : txB s = true := by unfold txB; rw [h, allB_yes k]; rfl
theorem nm_no {n k : Nat} {f : Nat → ByteArray} (hk : k < n) (h : txB (f k) = false) : nmB n f = false := by unfold nmB; rw [allB_no hk h, Bool.and_false]
theorem nm_yes {n : Nat} {f : Nat → ByteArray} (h : ∀ j, j < n → txB (f j) = true) : nmB n f = inB (n : Int) 1 4 := by unfold nmB; rw [allB_yes h, Bool.and_true]
set_option maxHeartbeats 3200000 in
theorem l10Name_any (p : Plc) (n : Nat) (f : Nat → ByteArray) (w : World) (hs : SSeg w p.ad p.b p.off n f) (hn : n ≤ 1048576) (hf : ∀ i, i < n → (f i).size ≤ 1048576) :
  Calls Tryz.prog 68 #[.slice p.ad n p.cap] w fun e w' => e = .returned (.bool (nmB n f)) ∧ Ext w w' := by
 obtain ⟨a, b, off, cap⟩ := p
 dsimp only at hs ⊢
 have Hs := hide hs
 have Hf := hide hf
 have HL : Hid (∀ W, Calls Tryz.prog 64 #[.int .i64 (n : Int), .int .i64 1, .int .i64 4] W fun e w' => e = .returned (.bool (inB (n : Int) 1 4)) ∧ w' = W) := fun W => l1InB _ _ _ W
 obtain ⟨R, hR⟩ : ∃ R, R = nmB n f := ⟨_, rfl⟩
 rw [← hR]
 have HR := hide hR
 clear hs hf hR
 go_enter Tryz.func68, Tryz.ntmps68
 go_wp2
 go_loopw [3] (fun i wr => ∃ k : Nat, k ≤ n ∧ i = .int .i64 (k : Int) ∧ (∀ j, j < k → txB (f j) = true) ∧ Ext w wr) (fun i _ => n - (intOf i).toNat)
 case atStart => exact ⟨0, Nat.zero_le _, rfl, fun j hj => absurd hj (Nat.not_lt_zero _), Ext.refl _⟩
 case round =>
  obtain ⟨k, hk, rfl, hd, hE⟩ := hrel
  have HD := hide hd
  have HE := hide hE
  clear hd
  by_cases hlt : k < n
  ·have hat := Hs.out.at' (by omega)
   subst hat
   have c1 := (Hs.out.of_all hE).cell k hlt
   have hkn : (k : Int) < (n : Int) := by omega
   have hsz := Hf.out k hlt
   have HX := hide (l1InB ((f k).size : Int) 1 40 wr)
   obtain ⟨s, hs⟩ : ∃ s, f k = s := ⟨_, rfl⟩
   rw [hs] at c1 hsz HX
   have Hk := hide hs
   clear hE hs
   obtain ⟨q, hq⟩ : ∃ q, inB (s.size : Int) 1 40 = q := ⟨_, rfl⟩
   rw [hq] at HX
   have Hq := hide hq
   clear hq
   go_wp2_with fail
   refine HX.out.mono ?_
   rintro e w1 ⟨rfl, hw⟩
   obtain rfl := hw.symm
   clear hw HX
   cases q
   ·go_wp2
    go_ret
    exact ⟨ret_bool (by rw [HR.out, nm_no hlt (by rw [Hk.out]; exact tx_no1 Hq.out)]), HE.out⟩
   ·go_wp2
    go_loopw [4] (fun i wr2 => ∃ j : Nat, j ≤ s.size ∧ i = .int .i64 (j : Int) ∧ (∀ m, m < j → byB (bt s m) = true) ∧ wr2 = wr) (fun i _ => s.size - (intOf i).toNat)
    case atStart => exact ⟨0, Nat.zero_le _, rfl, fun j hj => absurd hj (Nat.not_lt_zero _), rfl⟩
    case round =>
     obtain ⟨j, hj, rfl, hd, hw⟩ := hrel
     obtain rfl := hw.symm
     have HD2 := hide hd
     clear hd hw
     by_cases hjl : j < s.size
     ·have hjn : (j : Int) < (s.size : Int) := by omega
      have hbt := bt_get s j hjl
      have hb2 := bt_lt s j
      have HY := hide (l1InB (bt s j : Int) 32 126 wr)
      obtain ⟨y, hy⟩ : ∃ y, inB (bt s j : Int) 32 126 = y := ⟨_, rfl⟩
      rw [hy] at HY
      have Hy : Hid (byB (bt s j) = y) := hy
      clear hy
      generalize bt s j = B at HY hbt hb2
      go_wp2_with fail
      refine HY.out.mono ?_
      rintro e w1 ⟨rfl, hw⟩
      obtain rfl := hw.symm
      clear hw HY
      cases y
      ·go_wp2
       go_ret
       exact ⟨ret_bool (by rw [HR.out, nm_no hlt (by rw [Hk.out]; exact tx_no2 hjl Hy.out)]), HE.out⟩
      ·go_wp2
       go_roundw
       case rel => exact ⟨j + 1, by omega, by go_num, fun m hm => by
              by_cases e : m = j
              ·subst e; exact Hy.out
              ·exact HD2.out m (by omega), trivial⟩
       case measure => simp [intOf]; omega
     ·obtain rfl : j = s.size := by omega
      go_wp2
      go_roundw
      case rel => exact ⟨k + 1, by omega, by go_num, fun m hm => by
             by_cases e : m = k
             ·subst e; rw [Hk.out]; exact tx_yes Hq.out HD2.out
             ·exact HD.out m (by omega), HE.out⟩
      case measure => simp [intOf]; omega
  ·obtain rfl : k = n := by omega
   have HLx := hide (HL.out wr)
   have Hn : Hid (R = inB (k : Int) 1 4) := hide (by rw [HR.out, nm_yes HD.out])
   generalize inB (k : Int) 1 4 = Q at HLx Hn
   clear hE HL
   go_wp2_with fail
   refine HLx.out.mono ?_
   rintro e w1 ⟨rfl, hw⟩
   obtain rfl := hw.symm
   clear hw
   go_wp2
   go_ret
   exact ⟨ret_bool (by rw [Hn.out]), HE.out⟩
def upB (f : Nat → Int) (i : Nat) : Bool := decide (i = 0) || decide (f (i - 1) < f i)
theorem up0 (f : Nat → Int) {j : Nat} (h : j < 1) : upB f j = true := by
 obtain rfl : j = 0 := (by omega)
 rfl
set_option maxHeartbeats 1600000 in
theorem isRising_any (p : Plc) (n : Nat) (f : Nat → Int) (w : World) (hs : Seg w p.ad p.b p.off n f) (hn : n ≤ 1048576) :
  Calls Tryz.prog 95 #[.slice p.ad n p.cap] w fun e w' => e = .returned (.bool (allB (upB f) n)) ∧ Ext w w' := by
 obtain ⟨a, b, off, cap⟩ := p
 dsimp only at hs ⊢
 have Hs := hide hs
 obtain ⟨R, hR⟩ : ∃ R, R = allB (upB f) n := ⟨_, rfl⟩
 rw [← hR]
 have HR := hide hR
 clear hs hR
 go_enter Tryz.func95, Tryz.ntmps95
 go_wp2
 go_loopw [3] (fun i wr => ∃ k : Nat, (k ≤ n ∨ k = 1) ∧ 1 ≤ k ∧ i = .int .i64 (k : Int) ∧ (∀ j, j < k → upB f j = true) ∧ Ext w wr) (fun i _ => n - (intOf i).toNat)
 case atStart => exact ⟨1, .inr rfl, Nat.le_refl _, rfl, fun j hj => up0 f hj, Ext.refl _⟩
 case round =>
  obtain ⟨k, hk, hk1, rfl, hd, hE⟩ := hrel
  have HD := hide hd
  have HE := hide hE
  clear hd
  by_cases hlt : k < n
  ·have hat := Hs.out.at' (by omega)
   subst hat
   obtain ⟨m, rfl⟩ : ∃ m, k = m + 1 := ⟨k - 1, by omega⟩
   have c1 := (Hs.out.of_all hE).cell m (by omega)
   have c2 := (Hs.out.of_all hE).cell (m + 1) hlt
   have hkn : (m : Int) + 1 < (n : Int) := by omega
   have hkm : (m : Int) < (n : Int) := by omega
   have hw1 : wrap64 ((m : Int) + 1 - 1) = m := by unfold wrap64; omega
   have hw2 : IntKind.i64.wrap ((m : Int) + 1 - 1) = m := by rw [IntKind.wrap_i64]; omega
   have Hup : Hid (upB f (m + 1) = decide (f m < f (m + 1))) := hide (by unfold upB; simp)
   generalize f m = x at c1 Hup
   generalize f (m + 1) = y at c2 Hup
   clear hE hk hk1
   by_cases hxy : x < y
   ·have hd1 : decide (y ≤ x) = false := decide_eq_false (by omega)
    rw [decide_eq_true hxy] at Hup
    clear hxy
    go_wp2
    go_quiet (fail)
    go_wp2
    go_roundw
    case rel => exact ⟨m + 1 + 1, by omega, by omega, by go_num, fun j hj => by
           by_cases e : j = m + 1
           ·subst e; exact Hup.out
           ·exact HD.out j (by omega), below_drewN HE.out _⟩
    case measure => simp [intOf]; omega
   ·have hd1 : decide (y ≤ x) = true := decide_eq_true (by omega)
    rw [decide_eq_false hxy] at Hup
    clear hxy
    go_wp2
    go_quiet (fail)
    go_wp2
    go_ret
    exact ⟨ret_bool (by rw [HR.out, allB_no hlt Hup.out]), below_drewN HE.out _⟩
  ·have g : ¬ (k : Int) < (n : Int) := by omega
   have Hk := hide hk
   clear hE hk
   go_wp2
   go_ret
   exact ⟨ret_bool (by rw [HR.out, allB_yes (fun j hj => HD.out j (by omega))]), HE.out⟩
end
section
open Go.RowKit
def strW (w : World) (s : ByteArray) : World := w.drew.alloc (.cells (bytesRow s (grownCap w s.size 0 5)) 5 ((bytesRow s (grownCap w s.size 0 5)).size, (bytesRow s (grownCap w s.size 0 5)).size + 1))
theorem strW_ext (w : World) (s : ByteArray) : Ext w (strW w s) := Ext.trans (b := w.drew) ⟨rfl, rfl, rfl, Nat.le_refl _, fun _ _ => rfl⟩ (Ext.alloc _ _)
theorem run_str (w : World) (s : ByteArray) : (convert 9 22 (.string s)).run Tryz.prog w = .ok (.slice (some ⟨w.heap.size, 0, none⟩) s.size (grownCap w s.size 0 5)) (strW w s) :=
 run_bytes_of_string (P := Tryz.prog) w 9 22 5 s (by kernel_rfl) (by kernel_rfl) (by kernel_rfl)
theorem str_own (w : World) (s : ByteArray) : BOwn (strW w s) (some ⟨w.heap.size, 0, none⟩) w.heap.size 0 s.size (fun i => (bt s i : Int)) := by
 have hK : (strW w s).heap[w.heap.size]? = some (.cells (bytesRow s (grownCap w s.size 0 5)) 5 ((bytesRow s (grownCap w s.size 0 5)).size, (bytesRow s (grownCap w s.size 0 5)).size + 1)) := heap_alloc_new w.drew _
 have hsz : s.size ≤ (bytesRow s (grownCap w s.size 0 5)).size := by
  by_cases c : 0 < s.size
  ·have := str_cells hK (i := s.size - 1) (by omega)
   unfold World.cell? at this
   rw [hK] at this
   simp only at this
   have h2 := (Array.getElem?_eq_some_iff.1 this).1
   omega
  ·omega
 refine ⟨⟨fun _ => rfl, fun i hi => by rw [Nat.zero_add]; exact str_cells hK hi⟩, fun i hi => ?_⟩
 unfold World.frozen?
 simp only [hK]
 simp
 omega
def txC (tag : Int) (s : ByteArray) : Ic := ⟨tag, 0, (List.range s.size).map (fun i => (bt s i : Int))⟩
set_option maxHeartbeats 1600000 in
set_option maxRecDepth 100000 in
theorem l10Texts_any (tag : Int) (a : Option Addr) (b off n cap : Nat) (f : Nat → ByteArray) (w : World) (hs : SSeg w a b off n f) (hn : n ≤ 1000) :
  Calls Tryz.prog 73 #[.int .i64 tag, .slice a n cap] w fun e w' => GivesIs w.heap.size w ((List.range n).map (fun i => txC tag (f i))) e w' := by
 have H0 := hide (LAcc.nil w w.heap.size (Nat.le_refl _))
 have Hs := hide hs
 clear hs
 go_enter Tryz.func73, Tryz.ntmps73
 go_wp2
 go_loopw [5, 6] (fun v k wr => ∃ (j : Nat) (L : List It), j ≤ n ∧ k = .int .i64 (j : Int) ∧ LAcc w.heap.size wr v L ∧ L.map ct = (List.range j).map (fun i => txC tag (f i)) ∧ Ext w wr) (fun _ k _ => n - (intOf k).toNat)
 case atStart => exact ⟨0, [], Nat.zero_le _, rfl, H0.out, rfl, Ext.alloc _ _⟩
 case round =>
  clear H0
  obtain ⟨j, L, hj, rfl, hA, hC, hE⟩ := hrel
  have hll : L.length = j := by have := map_len hC; simpa using this
  have HA := hide hA
  have HC := hide hC
  have HE := hide hE
  have Hll := hide hll
  by_cases hlt : j < n
  ·have hjk : (j : Int) < (n : Int) := by omega
   obtain rfl := Hs.out.at' (by omega)
   have cj := (Hs.out.of_all hE).cell j hlt
   have HN : Hid (((List.range j).map (fun i => txC tag (f i))) ++ [txC tag (f j)] = (List.range (j + 1)).map (fun i => txC tag (f i))) := by show _ = _; rw [List.range_succ, List.map_append]; rfl
   clear hA hC hE hll
   generalize f j = s at *
   have hcv := run_str wr s
   have HB := hide (Bods.one (B := wr.heap.size) (cap := grownCap wr s.size 0 5) tag (str_own wr s) (Nat.le_refl _))
   have HX := hide (strW_ext wr s)
   have W1 : Hid (wrap64 ((j : Int) + 1) = (j : Int) + 1) := by show _ = _; unfold wrap64; omega
   have HTx : Hid (txC tag s = ⟨tag, 0, (List.range s.size).map (fun i => (bt s i : Int))⟩) := rfl
   generalize txC tag s = CT at *
   generalize (fun i => (bt s i : Int)) = F at *
   generalize grownCap wr s.size 0 5 = gc at *
   generalize strW wr s = ws at *
   go_wp2_with (at_builtin; refine stop_app rfl ?_)
   refine hide ?_
   have hE2 : Ext wr (ws.alloc (.cells #[.int .i64 tag, .slice (some ⟨wr.heap.size, 0, none⟩) s.size gc, .int .i64 0] 40)) := Ext.trans HX.out (Ext.alloc _ _)
   have lat := HA.out.later hE2 (HB.out.ext (Ext.alloc _ _)) (Below.size HE.out)
   refine wpList_appL rfl _ _ rfl w.heap.size ws.heap.size wr _ _ L [⟨tag, 0, some ⟨wr.heap.size, 0, none⟩, wr.heap.size, 0, s.size, gc, nfF s.size F⟩] rfl HA.out hE2 rfl (ownsRow_it ws ⟨tag, 0, some ⟨wr.heap.size, 0, none⟩, wr.heap.size, 0, s.size, gc, nfF s.size F⟩) lat.1 lat.2 (by have := Hll.out; simp; omega) (Below.size HE.out) ?_
   intro v' w2 hA2 hB2
   have HA2 := hide hA2
   have HE2 : Hid (Ext w w2) := hide (Below.trans (Ext.trans HE.out hE2) (hB2 _ (fun k hk => (HA.out.row.lt k hk).1) (Nat.le_trans (Below.size HE.out) (Below.size hE2))))
   clear hA2 hB2 lat cj hcv hE2
   go_wp2
   refine ⟨⟨j + 1, _, by omega, by (try rw [W1.out]); congr 1, HA2.out, by rw [List.map_append, HC.out, List.map_cons, ct_one, List.map_nil, ← HTx.out]; exact HN.out, HE2.out⟩, ?_⟩
   try rw [W1.out]
   show n - ((j : Int) + 1).toNat < n - ((j : Int)).toNat
   omega
  ·obtain rfl : j = n := by omega
   have hjk : ¬ (j : Int) < (j : Int) := by omega
   clear hA hC hE hll
   go_wp2
   go_ret
   exact ⟨_, L, rfl, HA.out, HC.out, HE.out⟩
def OrP (w : World) (P : Prop) (R : Value → World → Prop) (e : Ending) (w' : World) : Prop := Ext w w' ∧ ((∃ v, e = .returned v ∧ R v w') ∨ ((∃ v, e = .panicked [{ v := v, recovered := false }]) ∧ ¬ P))
structure Rdx (x : Nat → It) (n : Nat) (w : World) : Prop where
 body : ∀ i, i < n → BOwn w (x i).ad (x i).blk (x i).off (x i).len (x i).f
 good : ∀ i, i < n → itGood (x i)
 rng : ∀ i, i < n → ∀ j, j < (x i).len → 0 ≤ (x i).f j ∧ (x i).f j < 256
 cap : ∀ i, i < n → 0 < (x i).len → Cp (x i)
 len : ∀ i, i < n → (x i).len ≤ 4000
theorem Rdx.ext {x : Nat → It} {n : Nat} {w w' : World} (h : Rdx x n w) (e : Ext w w') : Rdx x n w' := ⟨fun i hi => (h.body i hi).of_all e, h.good, h.rng, h.cap, h.len⟩
theorem ta_leaf (v : Value) (w : World) : (Instr.typeAssert (.iface 140 v) 51 140 false).run Tryz.prog w = .ok v w := by kernel_rfl
theorem ta_knot (v : Value) (w : World) : (Instr.typeAssert (.iface 133 v) 51 133 false).run Tryz.prog w = .ok v w := by kernel_rfl
theorem fd_leaf (t : Int) (a : Option Addr) (l c : Nat) (w : World) : (Instr.field 140 (.agg #[.int .i64 t, .slice a l c]) 1).run Tryz.prog w = .ok (.slice a l c) w := by kernel_rfl
theorem fd_knot (t : Int) (a : Option Addr) (l c : Nat) (w : World) : (Instr.field 133 (.agg #[.int .i64 t, .slice a l c]) 1).run Tryz.prog w = .ok (.slice a l c) w := by kernel_rfl
def taO (g : Nat) : Obj := .cells #[.pointer (some ⟨7, 51, none⟩), .pointer (some ⟨7, g, none⟩), .pointer (some ⟨7, 140 + 133 - g, none⟩), .string ⟨#[]⟩] 241
theorem ta_no1 (v : Value) (w : World) : (Instr.typeAssert (.iface 133 v) 51 140 false).run Tryz.prog w = .halt (.panic (.iface 15 (.pointer (some ⟨w.heap.size, 0, none⟩)))) (w.alloc (taO 133)) := by kernel_rfl
theorem ta_no2 (v : Value) (w : World) : (Instr.typeAssert (.iface 140 v) 51 133 false).run Tryz.prog w = .halt (.panic (.iface 15 (.pointer (some ⟨w.heap.size, 0, none⟩)))) (w.alloc (taO 140)) := by kernel_rfl
set_option maxHeartbeats 1600000 in
set_option maxRecDepth 100000 in
theorem bodyOf_any {x : Nat → It} {n : Nat} {w : World} {m B : Nat} {v : Value} {i : Nat} (hP : PieAt x n w m B v i) (k : Nat) (hk : k ≤ 1) :
  Calls Tryz.prog 86 #[v, .int .i64 (k : Int)] w (OrP w (mdT (x i).tag = false ∧ k ≤ (x i).len) (fun u _ => u = .slice (x i).ad (x i).len (x i).cap ∧ mdT (x i).tag = false ∧ k ≤ (x i).len)) := by
 cases m with
 | zero => exact hP.elim
 | succ m =>
  rcases hP.2 with ⟨h1, rfl⟩ | ⟨h1, b, hb, hl, rfl, hc⟩
  ·have h2 := fun w => ta_leaf (.agg #[.int .i64 (x i).tag, .slice (x i).ad (x i).len (x i).cap]) w
   have h3 := fun w => fd_leaf (x i).tag (x i).ad (x i).len (x i).cap w
   have Hm := hide h1
   clear hP h1
   obtain ⟨l, hl⟩ : ∃ l, (x i).len = l := ⟨_, rfl⟩
   rw [hl] at h2 h3 ⊢
   generalize (x i).tag = tg at *
   generalize (x i).ad = a at *
   generalize (x i).cap = cp at *
   clear hl
   by_cases hkl : k ≤ l
   ·have hkl' : (k : Int) ≤ (l : Int) := by omega
    go_enter Tryz.func86, Tryz.ntmps86
    go_wp2_with fail
    refine (want_yes _).mono ?_
    rintro e w1 ⟨rfl, hw⟩
    obtain rfl := hw.symm
    go_wp2
    go_ret
    exact ⟨Ext.refl _, .inl ⟨_, rfl, rfl, Hm.out, hkl⟩⟩
   ·have hkl' : ¬ (k : Int) ≤ (l : Int) := by omega
    go_enter Tryz.func86, Tryz.ntmps86
    go_wp2_with fail
    refine (want_no _).mono ?_
    rintro e w1 ⟨rfl, hw⟩
    obtain rfl := hw.symm
    exact ⟨rfl, Ext.refl _, .inr ⟨⟨_, rfl⟩, fun h => hkl h.2⟩⟩
  ·have h2 := ta_no1 (.agg #[.int .i64 (x i).tag, .slice (some ⟨b, 0, none⟩) (x i).kid.toNat (x i).kid.toNat]) w
   have Hm := hide h1
   clear hP h1 hc
   go_enter Tryz.func86, Tryz.ntmps86
   go_wp2
   exact ⟨rfl, Ext.alloc _ _, .inr ⟨⟨_, rfl⟩, fun h => by rw [Hm.out] at h; cases h.1⟩⟩
def PcsAt (x : Nat → It) (n : Nat) (W : World) (m B i : Nat) (u : Value) : Prop :=
 ∃ b : Nat, B ≤ b ∧ b < W.heap.size ∧ u = .slice (some ⟨b, 0, none⟩) (x i).kid.toNat (x i).kid.toNat ∧ ∀ j, j < (x i).kid.toNat → ∃ u, W.cell? ⟨b, j, none⟩ = some u ∧ PieAt x n W m (b + 1) u (kpl x n i j)
set_option maxHeartbeats 1600000 in
set_option maxRecDepth 100000 in
theorem partsOf_any {x : Nat → It} {n : Nat} {w : World} {m B : Nat} {v : Value} {i : Nat} (hP : PieAt x n w (m + 1) B v i) (k : Nat) (hk : k ≤ 10) (hK : (x i).kid.toNat ≤ 300) :
  Calls Tryz.prog 49 #[v, .int .i64 (k : Int)] w (OrP w (mdT (x i).tag = true ∧ k ≤ (x i).kid.toNat) (fun u w' => PcsAt x n w' m B i u ∧ mdT (x i).tag = true ∧ k ≤ (x i).kid.toNat)) := by
 rcases hP.2 with ⟨h1, rfl⟩ | ⟨h1, b, hb, hl, rfl, hc⟩
 ·have h2 := ta_no2 (.agg #[.int .i64 (x i).tag, .slice (x i).ad (x i).len (x i).cap]) w
  have Hm := hide h1
  clear hP h1
  go_enter Tryz.func49, Tryz.ntmps49
  go_wp2
  exact ⟨rfl, Ext.alloc _ _, .inr ⟨⟨_, rfl⟩, fun h => by rw [Hm.out] at h; cases h.1⟩⟩
 ·have HR : Hid (PcsAt x n w m B i (.slice (some ⟨b, 0, none⟩) (x i).kid.toNat (x i).kid.toNat)) := hide ⟨b, hb, hl, rfl, hc⟩
  have h2 := fun w => ta_knot (.agg #[.int .i64 (x i).tag, .slice (some ⟨b, 0, none⟩) (x i).kid.toNat (x i).kid.toNat]) w
  have h3 := fun w => fd_knot (x i).tag (some ⟨b, 0, none⟩) (x i).kid.toNat (x i).kid.toNat w
  have Hm := hide h1
  clear hP h1 hc
  obtain ⟨l, hl⟩ : ∃ l, (x i).kid.toNat = l := ⟨_, rfl⟩
  rw [hl] at h2 h3 HR hK ⊢
  generalize (x i).tag = tg at *
  clear hl
  by_cases hkl : k ≤ l
  ·have hkl' : (k : Int) ≤ (l : Int) := by omega
   go_enter Tryz.func49, Tryz.ntmps49
   go_wp2_with fail
   refine (want_yes _).mono ?_
   rintro e w1 ⟨rfl, hw⟩
   obtain rfl := hw.symm
   go_wp2
   go_ret
   exact ⟨Ext.refl _, .inl ⟨_, rfl, HR.out, Hm.out, hkl⟩⟩
  ·have hkl' : ¬ (k : Int) ≤ (l : Int) := by omega
   go_enter Tryz.func49, Tryz.ntmps49
   go_wp2_with fail
   refine (want_no _).mono ?_
   rintro e w1 ⟨rfl, hw⟩
   obtain rfl := hw.symm
   exact ⟨rfl, Ext.refl _, .inr ⟨⟨_, rfl⟩, fun h => hkl h.2⟩⟩
theorem wantedInt_yes (z : Int) (w : World) : Calls Tryz.prog 84 #[.int .i64 z, .bool true] w fun e w' => e = .returned (.int .i64 z) ∧ w' = w := by
 go_enter Tryz.func84, Tryz.ntmps84
 go_wp2_with fail
 refine (want_yes _).mono ?_
 rintro e w1 ⟨rfl, hw⟩
 obtain rfl := hw.symm
 go_wp2
 go_ret
 exact ⟨rfl, rfl⟩
theorem wantedInt_no (z : Int) (w : World) : Calls Tryz.prog 84 #[.int .i64 z, .bool false] w fun e w' => e = .panicked [nrE] ∧ w' = w := by
 go_enter Tryz.func84, Tryz.ntmps84
 go_wp2_with fail
 refine (want_no _).mono ?_
 rintro e w1 ⟨rfl, hw⟩
 obtain rfl := hw.symm
 exact ⟨rfl, rfl, rfl⟩
theorem wantedB_yes (a : Option Addr) (n c : Nat) (w : World) : Calls Tryz.prog 27 #[.slice a n c, .bool true] w fun e w' => e = .returned (.slice a n c) ∧ w' = w := by
 go_enter Tryz.func27, Tryz.ntmps27
 go_wp2_with fail
 refine (want_yes _).mono ?_
 rintro e w1 ⟨rfl, hw⟩
 obtain rfl := hw.symm
 go_wp2
 go_ret
 exact ⟨rfl, rfl⟩
theorem wantedB_no (a : Option Addr) (n c : Nat) (w : World) : Calls Tryz.prog 27 #[.slice a n c, .bool false] w fun e w' => e = .panicked [nrE] ∧ w' = w := by
 go_enter Tryz.func27, Tryz.ntmps27
 go_wp2_with fail
 refine (want_no _).mono ?_
 rintro e w1 ⟨rfl, hw⟩
 obtain rfl := hw.symm
 exact ⟨rfl, rfl, rfl⟩
def I64 (k : Int) : Prop := -9223372036854775808 ≤ k ∧ k ≤ 9223372036854775807
theorem hi8_rd {z : Int} {L : Nat} (hL : IsLen z L) : ∀ k, k ≤ L → rdI (fun i => ib z (L - i)) k = hi8 z (L - k) := by
 intro k
 induction k with
 | zero =>
  intro _
  have h := small_true hL.yes
  show (if ib z (L - 0) < 128 then ib z (L - 0) else ib z (L - 0) - 256) = hi8 z (L - 0)
  rw [Nat.sub_zero]
  unfold ib
  split <;> omega
 | succ k ih =>
  intro hk
  show rdI (fun i => ib z (L - i)) k * 256 + ib z (L - (k + 1)) = _
  rw [ih (by omega), show L - k = (L - (k + 1)) + 1 by omega]
  unfold ib
  show hi8 z (L - (k + 1)) / 256 * 256 + _ = _
  omega
theorem rdI_congr {f g : Nat → Int} : ∀ k, (∀ i, i ≤ k → f i = g i) → rdI f k = rdI g k
 | 0, h => by show (if f 0 < 128 then f 0 else f 0 - 256) = (if g 0 < 128 then g 0 else g 0 - 256); rw [h 0 (Nat.le_refl _)]
 | k + 1, h => by show rdI f k * 256 + f (k + 1) = rdI g k * 256 + g (k + 1); rw [rdI_congr k (fun i hi => h i (by omega)), h (k + 1) (Nat.le_refl _)]
theorem ri_of {t : It} {z : Int} (hz : I64 z) (h : ct t = intC z) : riB t.f t.len = true ∧ riV t.f t.len = z := by
 have hL := ilen_is z hz.1 hz.2
 have hb : (List.range t.len).map t.f = ibL z := congrArg Ic.bd h
 have hl : t.len = ilen z + 1 := by have := congrArg List.length hb; simpa [ibL] using this
 have hf : ∀ i, i < ilen z + 1 → t.f i = ib z (ilen z - i) := fun i hi => by
  have := congrArg (fun l => l.getD i 0) hb
  simpa [ibL, hl, hi] using this
 have e : rdI t.f (ilen z) = z := by
  rw [rdI_congr (g := fun i => ib z (ilen z - i)) _ (fun i hi => hf i (by omega)), hi8_rd hL _ (Nat.le_refl _), Nat.sub_self]
  rfl
 have hB : riB t.f t.len = true := by
  unfold riB riOk
  rw [hl, Nat.add_sub_cancel, e, (alike_iff _ _ _).2 (fun i hi => (hf i hi).symm)]
  have := hL.le
  simp
  omega
 refine ⟨hB, ?_⟩
 unfold riV
 rw [if_pos hB, hl, Nat.add_sub_cancel, e]
theorem riV_in {f : Nat → Int} {n : Nat} (hy : ∀ i, i < n → 0 ≤ f i ∧ f i < 256) : I64 (riV f n) := by
 unfold riV
 split
 ·rename_i h
  unfold riB at h
  simp only [Bool.and_eq_true, decide_eq_true_eq] at h
  exact rdI_fits h.1.2 hy (n - 1) (by omega)
 ·exact ⟨by decide, by decide⟩
theorem mdT_prim {x : Nat → It} {i : Nat} {t : Int} (h : (x i).tag = t) (ht : t / 32 % 2 = 0) : mdT (x i).tag = false := by
 unfold mdT
 rw [h]
 simp [ht]
def NumR (t : It) (u : Value) : Prop := ∃ z, u = .int .i64 z ∧ I64 z ∧ ∀ k, I64 k → ct t = intC k → z = k
def NumP (t : It) : Prop := ∃ k, I64 k ∧ ct t = intC k
set_option maxHeartbeats 1600000 in
set_option maxRecDepth 100000 in
theorem readInt_any {x : Nat → It} {n : Nat} {w : World} {m B : Nat} {v : Value} {i : Nat} (hP : PieAt x n w m B v i) (hX : Rdx x n w) :
  Calls Tryz.prog 51 #[v] w (OrP w (NumP (x i)) (fun u _ => NumR (x i) u)) := by
 have hi : i < n := by cases m with | zero => exact hP.elim | succ m => exact hP.1
 have HB := hide (bodyOf_any hP 1 (Nat.le_refl _))
 have HX := hide hX
 have Hi := hide hi
 have HN : Hid (NumP (x i) → (mdT (x i).tag = false ∧ 1 ≤ (x i).len) ∧ riB (x i).f (x i).len = true) := hide (fun ⟨k, hk, hc⟩ => by
  have h1 : (x i).tag = 2 := congrArg Ic.tag hc
  have hl : (x i).len = ilen k + 1 := by have := congrArg (fun c => c.bd.length) hc; simpa [ct, intC, ibL] using this
  exact ⟨⟨mdT_prim h1 (by decide), by omega⟩, (ri_of hk hc).1⟩)
 clear hX hP hi
 go_enter Tryz.func51, Tryz.ntmps51
 go_wp2_with fail
 refine HB.out.mono ?_
 rintro e w1 ⟨hE1, ⟨u, rfl, rfl, h1, h2⟩ | ⟨⟨ch, rfl⟩, hno⟩⟩
 ·have hc := HX.out.cap i Hi.out (by omega)
  have HRd := hide (implReadIntBytes_any (x i).ad (x i).blk (x i).off (x i).len (x i).cap (x i).f w1 hc.1 hc.2 ((HX.out.body i Hi.out).of_all hE1).toBSeg (HX.out.rng i Hi.out))
  have HE1 := hide hE1
  have HI := hide (riV_in (HX.out.rng i Hi.out))
  have HV : Hid (∀ k, I64 k → ct (x i) = intC k → riV (x i).f (x i).len = k) := hide (fun k hk h => (ri_of hk h).2)
  clear hc hE1 h1 h2
  cases hb : riB (x i).f (x i).len
  ·rw [hb] at HRd
   have Hno : Hid (¬ NumP (x i)) := hide (fun h => by have := (HN.out h).2; rw [hb] at this; cases this)
   clear hb
   generalize riV (x i).f (x i).len = z at *
   generalize (x i).len = l at *
   generalize (x i).ad = ad at *
   generalize (x i).cap = cp at *
   go_wp2_with fail
   refine HRd.out.mono ?_
   rintro e w2 ⟨rfl, hE2⟩
   have HE2 := hide (HE1.out.trans hE2)
   clear hE2
   go_wp2_with fail
   refine (wantedInt_no _ _).mono ?_
   rintro e w3 ⟨rfl, hw⟩
   obtain rfl := hw.symm
   exact ⟨rfl, HE2.out, .inr ⟨⟨_, rfl⟩, Hno.out⟩⟩
  ·rw [hb] at HRd
   clear hb
   generalize riV (x i).f (x i).len = z at *
   generalize (x i).len = l at *
   generalize (x i).ad = ad at *
   generalize (x i).cap = cp at *
   go_wp2_with fail
   refine HRd.out.mono ?_
   rintro e w2 ⟨rfl, hE2⟩
   have HE2 := hide (HE1.out.trans hE2)
   clear hE2
   go_wp2_with fail
   refine (wantedInt_yes _ _).mono ?_
   rintro e w3 ⟨rfl, hw⟩
   obtain rfl := hw.symm
   go_wp2
   go_ret
   exact ⟨HE2.out, .inl ⟨_, rfl, z, rfl, HI.out, HV.out⟩⟩
 ·exact ⟨rfl, hE1, .inr ⟨⟨_, rfl⟩, fun h => hno (HN.out h).1⟩⟩
theorem data_inj {a b : ByteArray} (h : a.data.toList = b.data.toList) : a = b := ByteArray.ext (Array.ext' h)
theorem str_self (s : ByteArray) : strOfNums (nums (fun i => (bt s i : Int)) s.size) = s := by
 apply data_inj
 rw [strOfNums_data]
 unfold nums
 rw [List.map_map]
 apply List.ext_getElem
 ·rw [List.length_map, List.length_range]; exact Lib.size_eq s
 ·intro i h1 h2
  rw [List.getElem_map, List.getElem_range]
  apply UInt8.toNat.inj
  rw [bt_list, Function.comp_apply, UInt8.toNat_ofNat', Int.toNat_natCast]
  exact Nat.mod_eq_of_lt (bt_lt s i)
end
end Go.Proofs.YtkogbinfhoiggaaGreatDoor
