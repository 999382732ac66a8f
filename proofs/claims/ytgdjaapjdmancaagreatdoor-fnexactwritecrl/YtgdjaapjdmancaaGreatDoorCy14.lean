/- Walks: names and extensions that are right: program and model. Walks: texts as items and as pieces. Walks: texts as pieces, names. Plain numbers: days, months and years. Nothing of the program. -/
import Derived.Test.YtgdjaapjdmancaaGreatDoorCy03
import Derived.Test.YtgdjaapjdmancaaGreatDoorCy11
import Derived.Test.YtgdjaapjdmancaaGreatDoorCy13
import Derived.Test.YtgdjaapjdmancaaGreatDoorCy08
import Derived.Test.YtgdjaapjdmancaaGreatDoorCy01
namespace Go.Proofs.YtgdjaapjdmancaaGreatDoor

section
set_option linter.unusedVariables false
set_option linter.unusedSimpArgs false
set_option maxRecDepth 100000

open Go.RowKit

def inB (x lo hi : Int) : Bool := decide (lo ≤ x) && decide (x ≤ hi)

theorem l1InB (x lo hi : Int) (w : World) : Calls Tryz.prog 35 #[.int .i64 x, .int .i64 lo, .int .i64 hi] w fun e w' => e = .returned (.bool (inB x lo hi)) ∧ w' = w := l1In_int x lo hi w

theorem inRange_any (x lo hi : Int) (w : World) : Calls Tryz.prog 72 #[.int .i64 x, .int .i64 lo, .int .i64 hi] w fun e w' => e = .returned (.bool (inB x lo hi)) ∧ w' = w := by
  unfold inB
  by_cases h1 : lo ≤ x
  · by_cases h2 : x ≤ hi
    · go_enter Tryz.func72, Tryz.ntmps72
      go_wp2
      go_ret
      exact ⟨ret_bool (by simp [h1, h2]), rfl⟩
    · go_enter Tryz.func72, Tryz.ntmps72
      go_wp2
      go_ret
      exact ⟨ret_bool (by simp [h1, h2]), rfl⟩
  · go_enter Tryz.func72, Tryz.ntmps72
    go_wp2
    go_ret
    exact ⟨ret_bool (by rw [decide_eq_false (show ¬ lo ≤ x by omega), Bool.false_and]), rfl⟩

def tmB (t : Int) : Bool := inB t (-631152000) 4102444799

theorem l9OkB (t : Int) (w : World) : Calls Tryz.prog 37 #[.int .i64 t] w fun e w' => e = .returned (.bool (tmB t)) ∧ w' = w := by
  have HX := hide (l1InB t (-631152000) 4102444799 w)
  have HV : Hid (tmB t = inB t (-631152000) 4102444799) := rfl
  rw [HV.out]
  generalize inB t (-631152000) 4102444799 = R at *
  clear HV
  go_enter Tryz.func37, Tryz.ntmps37
  go_wp2_with fail
  refine HX.out.mono ?_
  rintro e w1 ⟨rfl, hw⟩
  obtain rfl := hw.symm
  go_wp2
  go_ret
  exact ⟨rfl, rfl⟩

theorem isTimeB (t : Int) (w : World) : Calls Tryz.prog 71 #[.int .i64 t] w fun e w' => e = .returned (.bool (tmB t)) ∧ w' = w := by
  unfold tmB inB
  by_cases h1 : (-631152000 : Int) ≤ t
  · by_cases h2 : t ≤ 4102444799
    · go_enter Tryz.func71, Tryz.ntmps71
      go_wp2
      go_ret
      exact ⟨ret_bool (by simp [h1, h2]), rfl⟩
    · go_enter Tryz.func71, Tryz.ntmps71
      go_wp2
      go_ret
      exact ⟨ret_bool (by simp [h1, h2]), rfl⟩
  · go_enter Tryz.func71, Tryz.ntmps71
    go_wp2
    go_ret
    exact ⟨ret_bool (by rw [decide_eq_false (show ¬ -631152000 ≤ t by omega), Bool.false_and]), rfl⟩

/-- A byte, a text, a name that is right. -/
def byB (x : Nat) : Bool := inB (x : Int) 32 126

def txB (s : ByteArray) : Bool := inB (s.size : Int) 1 40 && allB (fun k => byB (bt s k)) s.size

def nmB (n : Nat) (f : Nat → ByteArray) : Bool := inB (n : Int) 1 4 && allB (fun i => txB (f i)) n

set_option maxHeartbeats 800000 in
theorem textByteOk_any (x : Nat) (hx : x < 256) (w : World) : Calls Tryz.prog 90 #[.int .u8 (x : Int)] w fun e w' => e = .returned (.bool (byB x)) ∧ Ext w w' := by
  have HX := hide (inRange_any (x : Int) 32 126 w)
  have HV : Hid (byB x = inB (x : Int) 32 126) := rfl
  rw [HV.out]
  generalize inB (x : Int) 32 126 = R at *
  clear HV
  go_enter Tryz.func90, Tryz.ntmps90
  go_wp2_with fail
  refine HX.out.mono ?_
  rintro e w1 ⟨rfl, hw⟩
  obtain rfl := hw.symm
  go_wp2
  go_ret
  exact ⟨rfl, Ext.refl _⟩

set_option maxHeartbeats 1600000 in
theorem textOk_any (s : ByteArray) (hs : s.size ≤ 1048576) (w : World) : Calls Tryz.prog 70 #[.string s] w fun e w' => e = .returned (.bool (txB s)) ∧ Ext w w' := by
  have HI := hide (inRange_any (s.size : Int) 1 40 w)
  have HV : Hid (txB s = (inB (s.size : Int) 1 40 && allB (fun k => byB (bt s k)) s.size)) := rfl
  rw [HV.out]
  clear HV
  by_cases h : inB (s.size : Int) 1 40 = true
  · rw [h] at HI ⊢
    rw [Bool.true_and]
    have hl : s.size ≤ 40 := by
      unfold inB at h
      simp at h
      omega
    have hcv := run_bytes_of_string (P := Tryz.prog) w 9 24 5 s (by kernel_rfl) (by kernel_rfl) (by kernel_rfl)
    have HKb : Hid ((w.drew.alloc (.cells (bytesRow s (grownCap w s.size 0 5)) 5 ((bytesRow s (grownCap w s.size 0 5)).size, (bytesRow s (grownCap w s.size 0 5)).size + 1))).heap[w.heap.size]? = some (.cells (bytesRow s (grownCap w s.size 0 5)) 5 ((bytesRow s (grownCap w s.size 0 5)).size, (bytesRow s (grownCap w s.size 0 5)).size + 1))) := heap_alloc_new w.drew _
    have HE2 : Hid (Ext w (w.drew.alloc (.cells (bytesRow s (grownCap w s.size 0 5)) 5 ((bytesRow s (grownCap w s.size 0 5)).size, (bytesRow s (grownCap w s.size 0 5)).size + 1)))) := Ext.trans (b := w.drew) ⟨rfl, rfl, rfl, Nat.le_refl _, fun _ _ => rfl⟩ (Ext.alloc _ _)
    generalize w.drew.alloc (.cells (bytesRow s (grownCap w s.size 0 5)) 5 ((bytesRow s (grownCap w s.size 0 5)).size, (bytesRow s (grownCap w s.size 0 5)).size + 1)) = w2 at *
    have HA := hide (aokB_any 90 (fun _ _ => by kernel_rfl) (fun k => byB (bt s k)) 40 (some ⟨w.heap.size, 0, none⟩) w.heap.size 0 s.size (grownCap w s.size 0 5) (fun k => .int .u8 (bt s k : Int)) w2
      ⟨fun _ => rfl, fun i hi => by rw [Nat.zero_add]; exact str_cells HKb.out hi⟩ (by omega) (by omega)
      (hide fun i hi W hW => textByteOk_any (bt s i) (bt_lt s i) W))
    rw [decide_eq_true hl, Bool.true_and] at HA
    generalize grownCap w s.size 0 5 = cap at *
    generalize w.heap.size = K at *
    generalize allB (fun k => byB (bt s k)) s.size = R at *
    clear h
    go_enter Tryz.func70, Tryz.ntmps70
    go_wp2_with fail
    refine HI.out.mono ?_
    rintro e w1 ⟨rfl, hw⟩
    obtain rfl := hw.symm
    clear hw
    go_wp2_with fail
    refine HA.out.mono ?_
    rintro e w3 ⟨rfl, hE⟩
    have HE3 := hide hE
    clear hE hcv
    go_wp2
    go_ret
    exact ⟨rfl, Ext.trans HE2.out HE3.out⟩
  · rw [Bool.not_eq_true] at h
    rw [h] at HI ⊢
    rw [Bool.false_and]
    clear h
    go_enter Tryz.func70, Tryz.ntmps70
    go_wp2_with fail
    refine HI.out.mono ?_
    rintro e w1 ⟨rfl, hw⟩
    obtain rfl := hw.symm
    clear hw
    go_wp2
    go_ret
    exact ⟨rfl, Ext.refl _⟩

theorem nm_alt (n : Nat) (f : Nat → ByteArray) : nmB n f = (decide (0 < n) && (decide (n ≤ 4) && allB (fun i => txB (f i)) n)) := by
  unfold nmB inB
  rw [← Bool.and_assoc]
  congr 1
  by_cases h1 : 0 < n <;> by_cases h2 : n ≤ 4 <;> simp [h1, h2] <;> omega

set_option maxHeartbeats 1600000 in
theorem nameOk_any (p : Plc) (n : Nat) (f : Nat → ByteArray) (w : World) (hs : SSeg w p.ad p.b p.off n f) (hn : n ≤ 1048576) (hf : ∀ i, i < n → (f i).size ≤ 1048576) :
    Calls Tryz.prog 44 #[.slice p.ad n p.cap] w fun e w' => e = .returned (.bool (nmB n f)) ∧ Ext w w' := by
  have HA := hide (aokS_any 70 (fun _ _ => by kernel_rfl) (fun i => txB (f i)) 4 p.ad p.b p.off n p.cap _ w hs.v hn (by omega) (hide fun i hi W hW => textOk_any (f i) (hf i hi) W))
  have HV := hide (nm_alt n f)
  rw [HV.out]
  generalize (decide (n ≤ 4) && allB (fun i => txB (f i)) n) = R at *
  clear HV hs hf
  by_cases h : 0 < n
  · have h1 : (0 : Int) < (n : Int) := by omega
    rw [decide_eq_true h, Bool.true_and]
    clear h
    go_enter Tryz.func44, Tryz.ntmps44
    go_wp2_with fail
    refine HA.out.mono ?_
    rintro e w1 ⟨rfl, hE⟩
    have HE := hide hE
    clear hE
    go_wp2
    go_ret
    exact ⟨rfl, HE.out⟩
  · have h1 : ¬ (0 : Int) < (n : Int) := by omega
    rw [decide_eq_false h, Bool.false_and]
    clear h
    go_enter Tryz.func44, Tryz.ntmps44
    go_wp2
    go_ret
    exact ⟨rfl, Ext.refl _⟩

theorem tx_no1 {s : ByteArray} (h : inB (s.size : Int) 1 40 = false) : txB s = false := by unfold txB; rw [h]; rfl

theorem tx_no2 {s : ByteArray} {k : Nat} (hk : k < s.size) (h : byB (bt s k) = false) : txB s = false := by unfold txB; rw [allB_no hk h, Bool.and_false]

theorem tx_yes {s : ByteArray} (h : inB (s.size : Int) 1 40 = true) (k : ∀ j, j < s.size → byB (bt s j) = true) : txB s = true := by unfold txB; rw [h, allB_yes k]; rfl

theorem nm_no {n k : Nat} {f : Nat → ByteArray} (hk : k < n) (h : txB (f k) = false) : nmB n f = false := by unfold nmB; rw [allB_no hk h, Bool.and_false]

theorem nm_yes {n : Nat} {f : Nat → ByteArray} (h : ∀ j, j < n → txB (f j) = true) : nmB n f = inB (n : Int) 1 4 := by unfold nmB; rw [allB_yes h, Bool.and_true]

set_option maxHeartbeats 3200000 in
theorem l10Name_any (p : Plc) (n : Nat) (f : Nat → ByteArray) (w : World) (hs : SSeg w p.ad p.b p.off n f) (hn : n ≤ 1048576) (hf : ∀ i, i < n → (f i).size ≤ 1048576) :
    Calls Tryz.prog 36 #[.slice p.ad n p.cap] w fun e w' => e = .returned (.bool (nmB n f)) ∧ Ext w w' := by
  obtain ⟨a, b, off, cap⟩ := p
  dsimp only at hs ⊢
  have Hs := hide hs
  have Hf := hide hf
  have HL : Hid (∀ W, Calls Tryz.prog 35 #[.int .i64 (n : Int), .int .i64 1, .int .i64 4] W fun e w' => e = .returned (.bool (inB (n : Int) 1 4)) ∧ w' = W) := fun W => l1InB _ _ _ W
  obtain ⟨R, hR⟩ : ∃ R, R = nmB n f := ⟨_, rfl⟩
  rw [← hR]
  have HR := hide hR
  clear hs hf hR
  go_enter Tryz.func36, Tryz.ntmps36
  go_wp2
  go_loopw [3] (fun i wr => ∃ k : Nat, k ≤ n ∧ i = .int .i64 (k : Int) ∧ (∀ j, j < k → txB (f j) = true) ∧ Ext w wr) (fun i _ => n - (intOf i).toNat)
  case atStart => exact ⟨0, Nat.zero_le _, rfl, fun j hj => absurd hj (Nat.not_lt_zero _), Ext.refl _⟩
  case round =>
    obtain ⟨k, hk, rfl, hd, hE⟩ := hrel
    have HD := hide hd
    have HE := hide hE
    clear hd
    by_cases hlt : k < n
    · have hat := Hs.out.at' (by omega)
      subst hat
      have c1 := (Hs.out.of_all hE).cell k hlt
      have hkn : (k : Int) < (n : Int) := by omega
      have hsz := Hf.out k hlt
      have HX := hide (l1InB ((f k).size : Int) 1 40 wr)
      obtain ⟨s, hs⟩ : ∃ s, f k = s := ⟨_, rfl⟩
      rw [hs] at c1 hsz HX
      have Hk := hide hs
      clear hE hs
      obtain ⟨q, hq⟩ : ∃ q, inB (s.size : Int) 1 40 = q := ⟨_, rfl⟩
      rw [hq] at HX
      have Hq := hide hq
      clear hq
      go_wp2_with fail
      refine HX.out.mono ?_
      rintro e w1 ⟨rfl, hw⟩
      obtain rfl := hw.symm
      clear hw HX
      cases q
      · go_wp2
        go_ret
        exact ⟨ret_bool (by rw [HR.out, nm_no hlt (by rw [Hk.out]; exact tx_no1 Hq.out)]), HE.out⟩
      · go_wp2
        go_loopw [4] (fun i wr2 => ∃ j : Nat, j ≤ s.size ∧ i = .int .i64 (j : Int) ∧ (∀ m, m < j → byB (bt s m) = true) ∧ wr2 = wr) (fun i _ => s.size - (intOf i).toNat)
        case atStart => exact ⟨0, Nat.zero_le _, rfl, fun j hj => absurd hj (Nat.not_lt_zero _), rfl⟩
        case round =>
          obtain ⟨j, hj, rfl, hd, hw⟩ := hrel
          obtain rfl := hw.symm
          have HD2 := hide hd
          clear hd hw
          by_cases hjl : j < s.size
          · have hjn : (j : Int) < (s.size : Int) := by omega
            have hbt := bt_get s j hjl
            have hb2 := bt_lt s j
            have HY := hide (l1InB (bt s j : Int) 32 126 wr)
            obtain ⟨y, hy⟩ : ∃ y, inB (bt s j : Int) 32 126 = y := ⟨_, rfl⟩
            rw [hy] at HY
            have Hy : Hid (byB (bt s j) = y) := hy
            clear hy
            generalize bt s j = B at HY hbt hb2
            go_wp2_with fail
            refine HY.out.mono ?_
            rintro e w1 ⟨rfl, hw⟩
            obtain rfl := hw.symm
            clear hw HY
            cases y
            · go_wp2
              go_ret
              exact ⟨ret_bool (by rw [HR.out, nm_no hlt (by rw [Hk.out]; exact tx_no2 hjl Hy.out)]), HE.out⟩
            · go_wp2
              go_roundw
              case rel => exact ⟨j + 1, by omega, by go_num, fun m hm => by
                            by_cases e : m = j
                            · subst e; exact Hy.out
                            · exact HD2.out m (by omega), trivial⟩
              case measure => simp [intOf]; omega
          · obtain rfl : j = s.size := by omega
            go_wp2
            go_roundw
            case rel => exact ⟨k + 1, by omega, by go_num, fun m hm => by
                          by_cases e : m = k
                          · subst e; rw [Hk.out]; exact tx_yes Hq.out HD2.out
                          · exact HD.out m (by omega), HE.out⟩
            case measure => simp [intOf]; omega
    · obtain rfl : k = n := by omega
      have HLx := hide (HL.out wr)
      have Hn : Hid (R = inB (k : Int) 1 4) := hide (by rw [HR.out, nm_yes HD.out])
      generalize inB (k : Int) 1 4 = Q at HLx Hn
      clear hE HL
      go_wp2_with fail
      refine HLx.out.mono ?_
      rintro e w1 ⟨rfl, hw⟩
      obtain rfl := hw.symm
      clear hw
      go_wp2
      go_ret
      exact ⟨ret_bool (by rw [Hn.out]), HE.out⟩

/-- Each is greater than the one ahead. -/
def upB (f : Nat → Int) (i : Nat) : Bool := decide (i = 0) || decide (f (i - 1) < f i)

theorem up0 (f : Nat → Int) {j : Nat} (h : j < 1) : upB f j = true := by
  obtain rfl : j = 0 := (by omega)
  rfl

set_option maxHeartbeats 1600000 in
theorem isRising_any (p : Plc) (n : Nat) (f : Nat → Int) (w : World) (hs : Seg w p.ad p.b p.off n f) (hn : n ≤ 1048576) :
    Calls Tryz.prog 49 #[.slice p.ad n p.cap] w fun e w' => e = .returned (.bool (allB (upB f) n)) ∧ Ext w w' := by
  obtain ⟨a, b, off, cap⟩ := p
  dsimp only at hs ⊢
  have Hs := hide hs
  obtain ⟨R, hR⟩ : ∃ R, R = allB (upB f) n := ⟨_, rfl⟩
  rw [← hR]
  have HR := hide hR
  clear hs hR
  go_enter Tryz.func49, Tryz.ntmps49
  go_wp2
  go_loopw [3] (fun i wr => ∃ k : Nat, (k ≤ n ∨ k = 1) ∧ 1 ≤ k ∧ i = .int .i64 (k : Int) ∧ (∀ j, j < k → upB f j = true) ∧ Ext w wr) (fun i _ => n - (intOf i).toNat)
  case atStart => exact ⟨1, .inr rfl, Nat.le_refl _, rfl, fun j hj => up0 f hj, Ext.refl _⟩
  case round =>
    obtain ⟨k, hk, hk1, rfl, hd, hE⟩ := hrel
    have HD := hide hd
    have HE := hide hE
    clear hd
    by_cases hlt : k < n
    · have hat := Hs.out.at' (by omega)
      subst hat
      obtain ⟨m, rfl⟩ : ∃ m, k = m + 1 := ⟨k - 1, by omega⟩
      have c1 := (Hs.out.of_all hE).cell m (by omega)
      have c2 := (Hs.out.of_all hE).cell (m + 1) hlt
      have hkn : (m : Int) + 1 < (n : Int) := by omega
      have hkm : (m : Int) < (n : Int) := by omega
      have hw1 : wrap64 ((m : Int) + 1 - 1) = m := by unfold wrap64; omega
      have hw2 : IntKind.i64.wrap ((m : Int) + 1 - 1) = m := by rw [IntKind.wrap_i64]; omega
      have Hup : Hid (upB f (m + 1) = decide (f m < f (m + 1))) := hide (by unfold upB; simp)
      generalize f m = x at c1 Hup
      generalize f (m + 1) = y at c2 Hup
      clear hE hk hk1
      by_cases hxy : x < y
      · have hd1 : decide (y ≤ x) = false := decide_eq_false (by omega)
        rw [decide_eq_true hxy] at Hup
        clear hxy
        go_wp2
        go_quiet (fail)
        go_wp2
        go_roundw
        case rel => exact ⟨m + 1 + 1, by omega, by omega, by go_num, fun j hj => by
                      by_cases e : j = m + 1
                      · subst e; exact Hup.out
                      · exact HD.out j (by omega), below_drewN HE.out _⟩
        case measure => simp [intOf]; omega
      · have hd1 : decide (y ≤ x) = true := decide_eq_true (by omega)
        rw [decide_eq_false hxy] at Hup
        clear hxy
        go_wp2
        go_quiet (fail)
        go_wp2
        go_ret
        exact ⟨ret_bool (by rw [HR.out, allB_no hlt Hup.out]), below_drewN HE.out _⟩
    · have g : ¬ (k : Int) < (n : Int) := by omega
      have Hk := hide hk
      clear hE hk
      go_wp2
      go_ret
      exact ⟨ret_bool (by rw [HR.out, allB_yes (fun j hj => HD.out j (by omega))]), HE.out⟩
end

section
set_option linter.unusedVariables false
set_option linter.unusedSimpArgs false

open Go.RowKit

/-- The world behind []byte(s). -/
def strW (w : World) (s : ByteArray) : World := w.drew.alloc (.cells (bytesRow s (grownCap w s.size 0 5)) 5 ((bytesRow s (grownCap w s.size 0 5)).size, (bytesRow s (grownCap w s.size 0 5)).size + 1))

theorem strW_ext (w : World) (s : ByteArray) : Ext w (strW w s) := Ext.trans (b := w.drew) ⟨rfl, rfl, rfl, Nat.le_refl _, fun _ _ => rfl⟩ (Ext.alloc _ _)

theorem run_str (w : World) (s : ByteArray) : (convert 9 24 (.string s)).run Tryz.prog w = .ok (.slice (some ⟨w.heap.size, 0, none⟩) s.size (grownCap w s.size 0 5)) (strW w s) :=
  run_bytes_of_string (P := Tryz.prog) w 9 24 5 s (by kernel_rfl) (by kernel_rfl) (by kernel_rfl)

theorem str_own (w : World) (s : ByteArray) : BOwn (strW w s) (some ⟨w.heap.size, 0, none⟩) w.heap.size 0 s.size (fun i => (bt s i : Int)) := by
  have hK : (strW w s).heap[w.heap.size]? = some (.cells (bytesRow s (grownCap w s.size 0 5)) 5 ((bytesRow s (grownCap w s.size 0 5)).size, (bytesRow s (grownCap w s.size 0 5)).size + 1)) := heap_alloc_new w.drew _
  have hsz : s.size ≤ (bytesRow s (grownCap w s.size 0 5)).size := by
    by_cases c : 0 < s.size
    · have := str_cells hK (i := s.size - 1) (by omega)
      unfold World.cell? at this
      rw [hK] at this
      simp only at this
      have h2 := (Array.getElem?_eq_some_iff.1 this).1
      omega
    · omega
  refine ⟨⟨fun _ => rfl, fun i hi => by rw [Nat.zero_add]; exact str_cells hK hi⟩, fun i hi => ?_⟩
  unfold World.frozen?
  simp only [hK]
  simp
  omega

/-- What the item of a text tells. -/
def txC (tag : Int) (s : ByteArray) : Ic := ⟨tag, 0, (List.range s.size).map (fun i => (bt s i : Int))⟩

set_option maxHeartbeats 1600000 in
set_option maxRecDepth 100000 in
theorem l10Texts_any (tag : Int) (a : Option Addr) (b off n cap : Nat) (f : Nat → ByteArray) (w : World) (hs : SSeg w a b off n f) (hn : n ≤ 1000) :
    Calls Tryz.prog 41 #[.int .i64 tag, .slice a n cap] w fun e w' => GivesIs w.heap.size w ((List.range n).map (fun i => txC tag (f i))) e w' := by
  have H0 := hide (LAcc.nil w w.heap.size (Nat.le_refl _))
  have Hs := hide hs
  clear hs
  go_enter Tryz.func41, Tryz.ntmps41
  go_wp2
  go_loopw [5, 6] (fun v k wr => ∃ (j : Nat) (L : List It), j ≤ n ∧ k = .int .i64 (j : Int) ∧ LAcc w.heap.size wr v L ∧ L.map ct = (List.range j).map (fun i => txC tag (f i)) ∧ Ext w wr) (fun _ k _ => n - (intOf k).toNat)
  case atStart => exact ⟨0, [], Nat.zero_le _, rfl, H0.out, rfl, Ext.alloc _ _⟩
  case round =>
    clear H0
    obtain ⟨j, L, hj, rfl, hA, hC, hE⟩ := hrel
    have hll : L.length = j := by have := map_len hC; simpa using this
    have HA := hide hA
    have HC := hide hC
    have HE := hide hE
    have Hll := hide hll
    by_cases hlt : j < n
    · have hjk : (j : Int) < (n : Int) := by omega
      obtain rfl := Hs.out.at' (by omega)
      have cj := (Hs.out.of_all hE).cell j hlt
      have HN : Hid (((List.range j).map (fun i => txC tag (f i))) ++ [txC tag (f j)] = (List.range (j + 1)).map (fun i => txC tag (f i))) := by show _ = _; rw [List.range_succ, List.map_append]; rfl
      clear hA hC hE hll
      generalize f j = s at *
      have hcv := run_str wr s
      have HB := hide (Bods.one (B := wr.heap.size) (cap := grownCap wr s.size 0 5) tag (str_own wr s) (Nat.le_refl _))
      have HX := hide (strW_ext wr s)
      have W1 : Hid (wrap64 ((j : Int) + 1) = (j : Int) + 1) := by show _ = _; unfold wrap64; omega
      have HTx : Hid (txC tag s = ⟨tag, 0, (List.range s.size).map (fun i => (bt s i : Int))⟩) := rfl
      generalize txC tag s = CT at *
      generalize (fun i => (bt s i : Int)) = F at *
      generalize grownCap wr s.size 0 5 = gc at *
      generalize strW wr s = ws at *
      go_wp2_with (at_builtin; refine stop_app rfl ?_)
      refine hide ?_
      have hE2 : Ext wr (ws.alloc (.cells #[.int .i64 tag, .slice (some ⟨wr.heap.size, 0, none⟩) s.size gc, .int .i64 0] 60)) := Ext.trans HX.out (Ext.alloc _ _)
      have lat := HA.out.later hE2 (HB.out.ext (Ext.alloc _ _)) (Below.size HE.out)
      refine wpList_appL rfl _ _ rfl w.heap.size ws.heap.size wr _ _ L [⟨tag, 0, some ⟨wr.heap.size, 0, none⟩, wr.heap.size, 0, s.size, gc, nfF s.size F⟩] rfl HA.out hE2 rfl (ownsRow_it ws ⟨tag, 0, some ⟨wr.heap.size, 0, none⟩, wr.heap.size, 0, s.size, gc, nfF s.size F⟩) lat.1 lat.2 (by have := Hll.out; simp; omega) (Below.size HE.out) ?_
      intro v' w2 hA2 hB2
      have HA2 := hide hA2
      have HE2 : Hid (Ext w w2) := hide (Below.trans (Ext.trans HE.out hE2) (hB2 _ (fun k hk => (HA.out.row.lt k hk).1) (Nat.le_trans (Below.size HE.out) (Below.size hE2))))
      clear hA2 hB2 lat cj hcv hE2
      go_wp2
      refine ⟨⟨j + 1, _, by omega, by (try rw [W1.out]); congr 1, HA2.out, by rw [List.map_append, HC.out, List.map_cons, ct_one, List.map_nil, ← HTx.out]; exact HN.out, HE2.out⟩, ?_⟩
      try rw [W1.out]
      show n - ((j : Int) + 1).toNat < n - ((j : Int)).toNat
      omega
    · obtain rfl : j = n := by omega
      have hjk : ¬ (j : Int) < (j : Int) := by omega
      clear hA hC hE hll
      go_wp2
      go_ret
      exact ⟨_, L, rfl, HA.out, HC.out, HE.out⟩
end

section
set_option linter.unusedVariables false
set_option linter.unusedSimpArgs false

open Go.RowKit

theorem textPiece1_any (tag : Int) (T : Nat) (s : ByteArray) (w : World) (hT : w.cell? ⟨T, 0, none⟩ = some (.int .i64 tag)) :
    Calls Tryz.prog 97 #[.string s, .pointer (some ⟨T, 0, none⟩)] w fun e w' => GivesPc w [txC tag s] e w' := by
  have hcv := run_str w s
  have HO := hide (str_own w s)
  have HX := hide (strW_ext w s)
  have HTx : Hid (txC tag s = ⟨tag, 0, (List.range s.size).map (fun i => (bt s i : Int))⟩) := rfl
  generalize txC tag s = CT at *
  generalize (fun i => (bt s i : Int)) = F at *
  generalize grownCap w s.size 0 5 = gc at *
  generalize strW w s = ws at *
  go_enter Tryz.func97, Tryz.ntmps97
  go_wp2_with fail
  refine (leafPiece_any tag _ _ _ ws).mono ?_
  rintro e w2 ⟨rfl, hw⟩
  obtain rfl := hw.symm
  go_wp2
  go_ret
  exact ⟨_, _, rfl, Pce.leaf tag HO.out (Nat.le_refl _), by rw [List.map_cons, ct_one, HTx.out]; rfl, HX.out⟩

set_option maxHeartbeats 3200000 in
set_option maxRecDepth 100000 in
theorem mappedTx_any (tag : Int) (T : Nat) (a : Option Addr) (b off n cap : Nat) (f : Nat → ByteArray) (w : World) (hs : SSeg w a b off n f) (hT : w.cell? ⟨T, 0, none⟩ = some (.int .i64 tag)) (hn : n ≤ 1000) :
    Calls Tryz.prog 96 #[.slice a n cap, .func (.func 97) #[] #[.pointer (some ⟨T, 0, none⟩)]] w fun e w' => GivesPs w ((List.range n).map (fun i => [txC tag (f i)])) e w' := by
  have HN := hide (owns_nils w n (by omega))
  have hmk := run_make_pcs n (by omega)
  have HI : Hid (∀ s W, Ext w W → Calls Tryz.prog 97 #[.string s, .pointer (some ⟨T, 0, none⟩)] W fun e w' => GivesPc W [txC tag s] e w') := fun s W h => textPiece1_any tag T s W ((Below.cell h (p := ⟨T, 0, none⟩) (World.block_lt_of_cell? _ _ hT)).trans hT)
  have Hs := hide hs
  clear hs hT
  go_enter Tryz.func96, Tryz.ntmps96
  go_wp2
  clear hmk
  go_loopw [13] (fun k wr => ∃ (j : Nat) (P : List (Value × List It)), j ≤ n ∧ k = .int .i64 (j : Int) ∧ P.length = j ∧ wr.ownsRow w.heap.size 47 1 (.slice (some ⟨w.heap.size, 0, none⟩) n n) n (P.map (·.1) ++ List.replicate (n - j) .nilIface) ∧ Pcs (w.heap.size + 1) wr.heap.size wr P ∧ P.map (fun p => p.2.map ct) = (List.range j).map (fun i => [txC tag (f i)]) ∧ Ext w wr) (fun k _ => n - (intOf k).toNat)
  case atStart => exact ⟨0, [], Nat.zero_le _, rfl, rfl, HN.out, Pcs.nil _ _ _ (Nat.le_refl _), rfl, Ext.alloc _ _⟩
  case round =>
    clear HN
    obtain ⟨j, P, hj, rfl, hPl, hO, hP, hC, hE⟩ := hrel
    have HO := hide hO
    have HP := hide hP
    have HC := hide hC
    have HE := hide hE
    have HPl := hide hPl
    by_cases hlt : j < n
    · have hjk : (j : Int) < (n : Int) := by omega
      obtain rfl := Hs.out.at' (by omega)
      have cj := (Hs.out.of_all HE.out).cell j hlt
      have HIj := hide (HI.out (f j) wr HE.out)
      clear hO hP hC hE hPl
      have W1 : Hid (wrap64 ((j : Int) + 1) = (j : Int) + 1) := by show _ = _; unfold wrap64; omega
      go_wp2_with fail
      refine HIj.out.mono ?_
      rintro e2 w2 ⟨v2, L2, rfl, h2, h2c, h2E⟩
      have H2 := hide h2
      have H2c := hide h2c
      have H2E := hide h2E
      have hO2 := ownsRow_ext HO.out h2E
      have cz : w2.cell? ⟨w.heap.size, j, none⟩ = some .nilIface := row_cell1 hO2 (by
        rw [List.getElem?_append_right (by simp [HPl.out]), List.length_map, HPl.out, Nat.sub_self, List.getElem?_replicate, if_pos (by omega)])
      have fz : w2.frozen? ⟨w.heap.size, j, none⟩ = false := World.ownsRow.frozenAt hO2 j
      obtain ⟨tg, aa, nn, cc, hv⟩ : ∃ tg aa nn cc, v2 = .iface 113 (.agg #[.int .i64 tg, .slice aa nn cc]) ∨ v2 = .iface 98 (.agg #[.int .i64 tg, .slice aa nn cc]) := by
        obtain ⟨tg, aa, nn, cc, h | h⟩ := h2.its w2 (Agr.refl _ _ _)
        · exact ⟨tg, aa, nn, cc, .inl h.1⟩
        · exact ⟨tg, aa, nn, cc, .inr h.1⟩
      have HO2 := hide hO2
      clear h2 h2c h2E hO2
      have hst : ∀ v2, Pce wr.heap.size w2.heap.size w2 v2 L2 → (w2.setCell ⟨w.heap.size, j, none⟩ v2).ownsRow w.heap.size 47 1 (.slice (some ⟨w.heap.size, 0, none⟩) n n) n ((P ++ [(v2, L2)]).map (·.1) ++ List.replicate (n - (j + 1)) .nilIface) ∧ Pcs (w.heap.size + 1) (w2.setCell ⟨w.heap.size, j, none⟩ v2).heap.size (w2.setCell ⟨w.heap.size, j, none⟩ v2) (P ++ [(v2, L2)]) ∧ Ext w (w2.setCell ⟨w.heap.size, j, none⟩ v2) := fun v2 hv2 => by
        have hR : w.heap.size < wr.heap.size := (HO.out.lt w.heap.size rfl).2
        have hbk : ∀ k, k ≠ w.heap.size → (w2.setCell ⟨w.heap.size, j, none⟩ v2).heap[k]? = w2.heap[k]? := fun k hk => Below.heap_setCell _ _ _ _ (by simpa using hk)
        have hsz : (w2.setCell ⟨w.heap.size, j, none⟩ v2).heap.size = w2.heap.size := by simp [World.setCell]
        have hs2 : wr.heap.size ≤ w2.heap.size := Below.size H2E.out
        refine ⟨?_, ?_, Below.setCell (p := ⟨w.heap.size, j, none⟩) (Ext.trans HE.out H2E.out) (Nat.le_refl _) _⟩
        · have := (World.ownsRow.stored HO2.out j v2).1
          have e : (P.map (·.1) ++ List.replicate (n - j) Value.nilIface).set j v2 = (P ++ [(v2, L2)]).map (·.1) ++ List.replicate (n - (j + 1)) .nilIface := by
            have h1 := set_mid (P.map (·.1)) Value.nilIface v2 (n - (j + 1))
            rw [List.length_map, HPl.out, show n - (j + 1) + 1 = n - j by omega] at h1
            rw [h1, List.map_append]
            rfl
          rw [e] at this
          exact this
        · rw [hsz]
          refine Pcs.add (W := wr) (E := wr.heap.size) HP.out (fun k h1 h2 => (hbk k (by omega)).trans (Below.block H2E.out k h2)) (by rw [hsz]; exact hs2) (hv2.keep (fun k h1 h2 => hbk k (by omega)) (by rw [hsz]; exact Nat.le_refl _)) (by omega) hs2
      have Hst := hide (hst v2 H2.out)
      clear hst
      have HNC : Hid ((P ++ [(v2, L2)]).map (fun p => p.2.map ct) = (List.range (j + 1)).map (fun i => [txC tag (f i)])) := by
        show _ = _
        rw [List.map_append, HC.out, List.range_succ, List.map_append]
        congr 1
        show [L2.map ct] = _
        rw [H2c.out]
        rfl
      rcases hv with hv | hv
      all_goals
        have Hv := hide hv
        clear H2
        subst hv
        go_wp2
        refine ⟨⟨j + 1, P ++ [(_, L2)], by omega, by (try rw [W1.out]); congr 1, by rw [List.length_append, HPl.out]; rfl, Hst.out.1, Hst.out.2.1, HNC.out, Hst.out.2.2⟩, ?_⟩
        try rw [W1.out]
        show n - ((j : Int) + 1).toNat < n - ((j : Int)).toNat
        omega
    · obtain rfl : j = n := by omega
      have hjk : ¬ (j : Int) < (j : Int) := by omega
      clear hO hP hC hE hPl
      have HO3 := HO.out
      rw [Nat.sub_self, List.replicate_zero, List.append_nil] at HO3
      have HO4 := hide HO3
      clear HO3 HO
      go_wp2
      go_ret
      exact ⟨P, by rw [HPl.out]; rfl, by rw [HPl.out]; exact HO4.out, HP.out, HC.out, HE.out⟩

/-- A call that hands back a list of new pieces, whose items tell these. -/
def GivesPx (w : World) (Cs : List (List Ic)) (e : Ending) (w' : World) : Prop :=
  ∃ R P, e = .returned (.slice (some ⟨R, 0, none⟩) P.length P.length) ∧ w.heap.size ≤ R ∧ w'.ownsRow R 47 1 (.slice (some ⟨R, 0, none⟩) P.length P.length) P.length (P.map (·.1)) ∧ Pcs (R + 1) w'.heap.size w' P ∧ P.map (fun p => p.2.map ct) = Cs ∧ Ext w w'

theorem textPieces_any (tag : Int) (a : Option Addr) (b off n cap : Nat) (f : Nat → ByteArray) (w : World) (hs : SSeg w a b off n f) (hn : n ≤ 1000) :
    Calls Tryz.prog 81 #[.int .i64 tag, .slice a n cap] w fun e w' => GivesPx w ((List.range n).map (fun i => [txC tag (f i)])) e w' := by
  obtain ⟨V, hV⟩ : ∃ V, w.alloc (.cells #[.int .i64 tag] 3) = V := ⟨_, rfl⟩
  have hE : Ext w V := by rw [← hV]; exact Ext.alloc _ _
  have hc : V.cell? ⟨w.heap.size, 0, none⟩ = some (.int .i64 tag) := by rw [← hV]; exact World.cell?_alloc_new _ _ _ _
  have HM := hide (mappedTx_any tag w.heap.size a b off n cap f V (hs.of_all hE) hc hn)
  have HE := hide hE
  clear hs hE hc
  go_enter Tryz.func81, Tryz.ntmps81
  go_wp2_with fail
  try rw [hV]
  clear hV
  refine HM.out.mono ?_
  rintro e w1 ⟨P, rfl, h1, h2, h3, h4⟩
  have H1 := hide h1
  have H2 := hide h2
  have H3 := hide h3
  have H4 := hide h4
  clear h1 h2 h3 h4 HM
  obtain ⟨N, hN⟩ : ∃ N, P.length = N := ⟨_, rfl⟩
  rw [hN]
  have HN := hide hN
  clear hN
  go_wp2
  go_ret
  exact ⟨V.heap.size, P, by rw [HN.out]; rfl, Below.size HE.out, H1.out, H2.out, H3.out, HE.out.trans H4.out⟩

theorem flat_one {P : List (Value × List It)} {n : Nat} {g : Nat → Ic} (h : P.map (fun p => p.2.map ct) = (List.range n).map (fun i => [g i])) : (P.flatMap (·.2)).map ct = (List.range n).map g := by
  have e : (P.flatMap (·.2)).map ct = (P.map (fun p => p.2.map ct)).flatMap (fun x => x) := by rw [List.map_flatMap, List.flatMap_map]
  have k : ∀ L : List Nat, L.flatMap (fun i => [g i]) = L.map g := by
    intro L
    induction L with
    | nil => rfl
    | cons x L ih => rw [List.flatMap_cons, ih]; rfl
  rw [e, h, List.flatMap_map]
  exact k _

/-- What a name's items tell. -/
def nmC (n : Nat) (f : Nat → ByteArray) : List Ic := ⟨48, n, []⟩ :: (List.range n).map (fun i => txC 12 (f i))

set_option maxHeartbeats 800000 in
theorem namePiece_any (a : Option Addr) (b off n cap : Nat) (f : Nat → ByteArray) (w : World) (hs : SSeg w a b off n f) (hn : n ≤ 1000) :
    Calls Tryz.prog 57 #[.slice a n cap] w fun e w' => GivesPc w (nmC n f) e w' := by
  have HT := hide (textPieces_any 12 a b off n cap f w hs hn)
  clear hs
  go_enter Tryz.func57, Tryz.ntmps57
  go_wp2_with fail
  refine HT.out.mono ?_
  rintro e w1 ⟨R, P, rfl, hR, h1, h2, h3, h4⟩
  have hl : P.length = n := by have := map_len h3; simpa using this
  have hf := flat_one h3
  have HK := hide (Pce.knot (B := R) (a := some ⟨R, 0, none⟩) (n := P.length) (cap := P.length) 48 (h2.wide (B' := R) (E' := w1.heap.size) (by omega) (Nat.le_refl _) (Nat.le_refl _)) h1 (by have := map_len hf; rw [List.length_map, List.length_range] at this; omega) (by omega))
  have HF := hide hf
  have HL := hide hl
  have HE := hide h4
  clear h1 h2 h3 h4 hf hl HT
  obtain ⟨N, hN⟩ : ∃ N, P.length = N := ⟨_, rfl⟩
  rw [hN] at HK HL ⊢
  clear hN
  go_wp2_with fail
  refine (listPiece_any _ _ _ w1).mono ?_
  rintro e w2 ⟨rfl, hw⟩
  obtain rfl := hw.symm
  go_wp2
  go_ret
  exact ⟨_, _, rfl, HK.out.wide hR (Nat.le_refl _) (Nat.le_refl _), by rw [List.map_cons, ct_bare, HF.out, HL.out]; rfl, HE.out⟩
end

section
set_option linter.unusedVariables false
set_option linter.unusedSimpArgs false

open Go.RowKit

/-- The days of months in a year of 365. -/
def mTab : List Int := [31, 28, 31, 30, 31, 30, 31, 31, 30, 31, 30, 31]

/-- The days of a year, of a month. -/
def yd (y : Nat) : Nat := if y % 4 = 0 then 366 else 365

def mdt : Nat → Nat
  | 1 => 31 | 2 => 28 | 3 => 31 | 4 => 30 | 5 => 31 | 6 => 30 | 7 => 31 | 8 => 31 | 9 => 30 | 10 => 31 | 11 => 30 | 12 => 31 | _ => 0

def md (y m : Nat) : Nat := if m = 2 ∧ y % 4 = 0 then 29 else mdt m

/-- The days ahead of a year, counted from 1950, and of a month. -/
def Yd (k : Nat) : Nat := 365 * k + (k + 1) / 4

def mbt : Nat → Nat
  | 1 => 0 | 2 => 31 | 3 => 59 | 4 => 90 | 5 => 120 | 6 => 151 | 7 => 181 | 8 => 212 | 9 => 243 | 10 => 273 | 11 => 304 | 12 => 334 | 13 => 365 | _ => 0

def Mb (y m : Nat) : Nat := if 2 < m ∧ y % 4 = 0 then mbt m + 1 else mbt m

theorem Yd_succ (k : Nat) : Yd (k + 1) = Yd k + yd (1950 + k) := by unfold Yd yd; split <;> omega

theorem Mb_one (y : Nat) : Mb y 1 = 0 := by unfold Mb; simp [mbt]

theorem Mb_end (y : Nat) : Mb y 13 = yd y := by unfold Mb yd mbt; simp

theorem month_cases {m : Nat} (h1 : 1 ≤ m) (h2 : m ≤ 12) : m = 1 ∨ m = 2 ∨ m = 3 ∨ m = 4 ∨ m = 5 ∨ m = 6 ∨ m = 7 ∨ m = 8 ∨ m = 9 ∨ m = 10 ∨ m = 11 ∨ m = 12 := by omega

theorem Mb_succ (y m : Nat) (h1 : 1 ≤ m) (h2 : m ≤ 12) : Mb y (m + 1) = Mb y m + md y m := by
  by_cases h : y % 4 = 0
  all_goals rcases month_cases h1 h2 with rfl | rfl | rfl | rfl | rfl | rfl | rfl | rfl | rfl | rfl | rfl | rfl
  all_goals simp [Mb, md, mbt, mdt, h]

theorem md_le (y m : Nat) : md y m ≤ 31 := by
  unfold md
  split
  · omega
  · unfold mdt; split <;> omega

theorem Mb_le (y m : Nat) (h1 : 1 ≤ m) (h2 : m ≤ 12) : Mb y (m + 1) ≤ yd y := by
  by_cases h : y % 4 = 0
  all_goals rcases month_cases h1 h2 with rfl | rfl | rfl | rfl | rfl | rfl | rfl | rfl | rfl | rfl | rfl | rfl
  all_goals simp [Mb, mbt, yd, h]

theorem Mb_mono (y : Nat) {m n : Nat} (h1 : 1 ≤ m) (h : m < n) (h2 : n ≤ 12) : Mb y (m + 1) ≤ Mb y n := by
  induction n with
  | zero => omega
  | succ n ih =>
    by_cases e : m = n
    · subst e; exact Nat.le_refl _
    · have := ih (by omega) (by omega)
      rw [Mb_succ y n (by omega) (by omega)]
      omega

theorem Yd_mono {k n : Nat} (h : k < n) : Yd (k + 1) ≤ Yd n := by unfold Yd; omega

theorem Yd_lt {k : Nat} (h : Yd k ≤ 54786) : k < 150 := by unfold Yd at h; omega

theorem Yd_last {k : Nat} (h : k < 150) : Yd (k + 1) ≤ 54787 := by unfold Yd; omega

theorem yd_le (y : Nat) : 365 ≤ yd y ∧ yd y ≤ 366 := by unfold yd; split <;> omega

/-- Year, month and day that there are. -/
structure DayOk (y m d : Nat) : Prop where
  y0 : 1950 ≤ y
  y1 : y ≤ 2099
  m0 : 1 ≤ m
  m1 : m ≤ 12
  d0 : 1 ≤ d
  d1 : d ≤ md y m

/-- How many days lie ahead of a day. -/
def days (y m d : Nat) : Nat := Yd (y - 1950) + Mb y m + (d - 1)

theorem DayOk.lt {y m d : Nat} (h : DayOk y m d) : days y m d < Yd (y - 1950 + 1) ∧ Yd (y - 1950) ≤ days y m d ∧ Yd (y - 1950) + Mb y m ≤ days y m d ∧ days y m d < Yd (y - 1950) + Mb y (m + 1) := by
  have a := Yd_succ (y - 1950)
  have e : 1950 + (y - 1950) = y := by have := h.y0; omega
  rw [e] at a
  have b := Mb_succ y m h.m0 h.m1
  have c := Mb_le y m h.m0 h.m1
  have d0 := h.d0
  have d1 := h.d1
  unfold days
  omega

theorem DayOk.max {y m d : Nat} (h : DayOk y m d) : days y m d ≤ 54786 := by
  have := h.lt.1
  have := Yd_last (k := y - 1950) (by have := h.y1; omega)
  omega

theorem DayOk.unique {y m d y' m' d' : Nat} (h : DayOk y m d) (h' : DayOk y' m' d') (e : days y m d = days y' m' d') : y = y' ∧ m = m' ∧ d = d' := by
  obtain ⟨a1, a2, a3, a4⟩ := h.lt
  obtain ⟨b1, b2, b3, b4⟩ := h'.lt
  have hy : y = y' := by
    have h0 := h.y0
    have h0' := h'.y0
    rcases Nat.lt_trichotomy y y' with c | c | c
    · have := Yd_mono (k := y - 1950) (n := y' - 1950) (by omega); omega
    · exact c
    · have := Yd_mono (k := y' - 1950) (n := y - 1950) (by omega); omega
  subst hy
  have hm : m = m' := by
    rcases Nat.lt_trichotomy m m' with c | c | c
    · have := Mb_mono y h.m0 c h'.m1; omega
    · exact c
    · have := Mb_mono y h'.m0 c h.m1; omega
  subst hm
  have := h.d0
  have := h'.d0
  unfold days at e
  exact ⟨rfl, rfl, by omega⟩

/-- Order of days is that of years, months, days. -/
theorem DayOk.less {y m d y' m' d' : Nat} (h : DayOk y m d) (h' : DayOk y' m' d') (e : days y m d < days y' m' d') : y < y' ∨ (y = y' ∧ (m < m' ∨ (m = m' ∧ d < d'))) := by
  obtain ⟨a1, a2, a3, a4⟩ := h.lt
  obtain ⟨b1, b2, b3, b4⟩ := h'.lt
  have h0 := h.y0
  have h0' := h'.y0
  rcases Nat.lt_trichotomy y y' with c | c | c
  · exact .inl c
  · subst c
    refine .inr ⟨rfl, ?_⟩
    rcases Nat.lt_trichotomy m m' with c | c | c
    · exact .inl c
    · subst c
      unfold days at e
      exact .inr ⟨rfl, by omega⟩
    · have := Mb_mono y h'.m0 c h.m1; omega
  · have := Yd_mono (k := y' - 1950) (n := y - 1950) (by omega); omega

/-- The time of a day and a second. -/
def tmV (y m d s : Nat) : Int := -631152000 + ((days y m d * 86400 + s : Nat) : Int)

/-- A time, its day and its second. -/
structure IsDay (t : Int) (y m d s : Nat) : Prop extends DayOk y m d where
  s1 : s < 86400
  t1 : t = tmV y m d s

theorem IsDay.range {t : Int} {y m d s : Nat} (h : IsDay t y m d s) : -631152000 ≤ t ∧ t ≤ 4102444799 := by
  have := h.toDayOk.max
  have := h.s1
  have e := h.t1
  unfold tmV at e
  omega

theorem IsDay.unique {t : Int} {y m d s y' m' d' s' : Nat} (h : IsDay t y m d s) (h' : IsDay t y' m' d' s') : y = y' ∧ m = m' ∧ d = d' ∧ s = s' := by
  have a := h.s1
  have a' := h'.s1
  have e := h.t1
  have e' := h'.t1
  unfold tmV at e e'
  obtain ⟨h1, h2, h3⟩ := h.toDayOk.unique h'.toDayOk (by omega)
  subst h1 h2 h3
  exact ⟨rfl, rfl, rfl, by omega⟩

theorem isDay_of {t : Int} {D s k m r : Nat} (ht : t = -631152000 + ((D * 86400 + s : Nat) : Int)) (hD : D ≤ 54786) (hs : s < 86400) (hk : r + Mb (1950 + k) m + Yd k = D) (hm0 : 1 ≤ m) (hm : m ≤ 12) (hr : r < md (1950 + k) m) : IsDay t (1950 + k) m (r + 1) s := by
  have : k < 150 := Yd_lt (by omega)
  refine ⟨⟨by omega, by omega, hm0, hm, by omega, hr⟩, hs, ?_⟩
  rw [ht]
  unfold tmV days
  rw [Nat.add_sub_cancel_left, Nat.add_sub_cancel]
  have : D = Yd k + Mb (1950 + k) m + r := by omega
  rw [this]
end

end Go.Proofs.YtgdjaapjdmancaaGreatDoor
