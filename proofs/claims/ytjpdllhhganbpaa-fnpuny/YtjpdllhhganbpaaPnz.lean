/- Walks: words, near bytes, the least number, the program's puny state. -/
import Derived.Test.YtjpdllhhganbpaaPny
import Derived.Laws.Rows
namespace Go.Proofs.Ytjpdllhhganbpaa
set_option linter.unusedVariables false
set_option linter.unusedSimpArgs false
open Go.RowKit

/-- A word. -/
def ltrs (f : Nat → Int) : Nat → Bool
  | 0 => true
  | n + 1 => ltrs f n && (decide (0 ≤ f n) && decide (f n ≤ 1114111))
theorem ltrs_iff (f : Nat → Int) (n : Nat) : ltrs f n = true ↔ ∀ i, i < n → 0 ≤ f i ∧ f i ≤ 1114111 := by
  induction n with
  | zero => simp [ltrs]
  | succ n ih =>
    simp only [ltrs, Bool.and_eq_true, ih, decide_eq_true_eq]
    constructor
    · rintro ⟨h, h0, h1⟩ i hi
      by_cases e : i = n
      · subst e; exact ⟨h0, h1⟩
      · exact h i (by omega)
    · intro h
      exact ⟨fun i hi => h i (by omega), (h n (by omega)).1, (h n (by omega)).2⟩
def wordB (n : Nat) (f : Nat → Int) : Bool := ltrs f n && (decide (1 ≤ n) && decide (n ≤ 20))
theorem word_no {f : Nat → Int} {n k : Nat} (hk : k < n) (h : f k < 0 ∨ 1114111 < f k) : wordB n f = false := by
  unfold wordB
  cases e : ltrs f n with
  | false => rfl
  | true => have := (ltrs_iff f n).1 e k hk; omega
theorem word_end {f : Nat → Int} {n : Nat} (h : ∀ i, i < n → 0 ≤ f i ∧ f i ≤ 1114111) : wordB n f = (decide (1 ≤ n) && decide (n ≤ 20)) := by
  unfold wordB
  rw [(ltrs_iff f n).2 h, Bool.true_and]
theorem word_is {f : Nat → Int} {n : Nat} (h : wordB n f = true) : 1 ≤ n ∧ n ≤ 20 ∧ ∀ i, i < n → 0 ≤ f i ∧ f i ≤ 1114111 := by
  unfold wordB at h
  simp only [Bool.and_eq_true, decide_eq_true_eq] at h
  exact ⟨h.2.1, h.2.2, (ltrs_iff f n).1 h.1⟩

set_option maxHeartbeats 400000 in
theorem l8WordOk_any (a : Option Addr) (b off n cap : Nat) (f : Nat → Int) (w : World) (hs : Seg w a b off n f) (hn : n ≤ 1048576) :
    Calls Try.prog 34 #[.slice a n cap] w fun e w' => e = .returned (.bool (wordB n f)) ∧ w' = w := by
  go_enter Try.func34, Try.ntmps34
  go_wp2
  go_loop [3] (fun i => ∃ k : Nat, k ≤ n ∧ i = .int .i64 k ∧ ∀ j, j < k → 0 ≤ f j ∧ f j ≤ 1114111) (fun i => n - (intOf i).toNat)
  case atStart => exact ⟨0, Nat.zero_le _, rfl, fun j hj => absurd hj (Nat.not_lt_zero _)⟩
  case round =>
    obtain ⟨k, hk, rfl, hd⟩ := hrel
    by_cases hlt : k < n
    · obtain rfl := hs.at' (by omega)
      have hc := hs.cell k hlt
      by_cases hin : 0 ≤ f k ∧ f k ≤ 1114111
      · obtain ⟨h0, h1⟩ := hin
        have hb : (decide (0 ≤ f k) && decide (f k ≤ 1114111)) = true := by simp [h0, h1]
        go_wp2_with (go_at_call 39; refine (l1In_any _ _ _ _).mono ?_; rintro e w' ⟨rfl, rfl⟩)
        go_round
        case rel => exact ⟨k + 1, by omega, by go_num, fun j hj => by
                      by_cases e : j = k
                      · subst e; exact ⟨h0, h1⟩
                      · exact hd j (by omega)⟩
        case measure => simp [intOf]; omega
      · have hb : (decide (0 ≤ f k) && decide (f k ≤ 1114111)) = false := by simp; omega
        go_wp2_with (go_at_call 39; refine (l1In_any _ _ _ _).mono ?_; rintro e w' ⟨rfl, rfl⟩)
        go_ret
        exact ⟨ret_bool (word_no hlt (by omega)).symm, rfl⟩
    · obtain rfl : k = n := by omega
      have Hfin := hide (word_end hd)
      clear hd
      have HX : Hid ((decide ((1 : Int) ≤ (k : Int)) && decide ((k : Int) ≤ 20)) = (decide (1 ≤ k) && decide (k ≤ 20))) := by
        show _ = _
        congr 1 <;> · apply decide_eq_decide.2; omega
      go_wp2_with (go_at_call 39; refine (l1In_any _ _ _ _).mono ?_; rintro e w' ⟨rfl, rfl⟩)
      go_ret
      exact ⟨ret_bool (by rw [Hfin.out]; exact HX.out), rfl⟩

set_option maxHeartbeats 400000 in
theorem wordOk_any (a : Option Addr) (b off n cap : Nat) (f : Nat → Int) (w : World) (hs : Seg w a b off n f) (hn : n ≤ 1048576) :
    Calls Try.prog 30 #[.slice a n cap] w fun e w' => e = .returned (.bool (wordB n f)) ∧ w' = w := by
  by_cases h1 : 1 ≤ n
  · have g1 : ¬ (n : Int) < 1 := by omega
    by_cases h20 : n ≤ 20
    · have g2 : ¬ (20 : Int) < (n : Int) := by omega
      go_enter Try.func30, Try.ntmps30
      go_wp2
      go_loop [15] (fun i => ∃ k : Nat, k ≤ n ∧ i = .int .i64 k ∧ ∀ j, j < k → 0 ≤ f j ∧ f j ≤ 1114111) (fun i => n - (intOf i).toNat)
      case atStart => exact ⟨0, Nat.zero_le _, rfl, fun j hj => absurd hj (Nat.not_lt_zero _)⟩
      case round =>
        obtain ⟨k, hk, rfl, hd⟩ := hrel
        by_cases hlt : k < n
        · have hkn : (k : Int) < (n : Int) := by omega
          obtain rfl := hs.at' (by omega)
          have hc := hs.cell k hlt
          by_cases h0 : f k < 0
          · go_wp2
            go_ret
            exact ⟨ret_bool (word_no hlt (by omega)).symm, rfl⟩
          · by_cases h1 : 1114111 < f k
            · go_wp2
              go_ret
              exact ⟨ret_bool (word_no hlt (by omega)).symm, rfl⟩
            · go_wp2
              go_round
              case rel => exact ⟨k + 1, by omega, by go_num, fun j hj => by
                            by_cases e : j = k
                            · subst e; omega
                            · exact hd j (by omega)⟩
              case measure => simp [intOf]; omega
        · obtain rfl : k = n := by omega
          have Hfin := hide (word_end hd)
          clear hd
          go_wp2
          go_ret
          exact ⟨ret_bool (by rw [Hfin.out]; simp [h1, h20]), rfl⟩
    · have g2 : (20 : Int) < (n : Int) := by omega
      go_enter Try.func30, Try.ntmps30
      go_wp2
      go_ret
      exact ⟨ret_bool (by simp [wordB, h20]), rfl⟩
  · have g1 : (n : Int) < 1 := by omega
    go_enter Try.func30, Try.ntmps30
    go_wp2
    go_ret
    exact ⟨ret_bool (by simp [wordB, h1]), rfl⟩

/-- Numbers as cells of bytes. -/
def bys (L : List Int) : List Value := L.map (.int .u8)
theorem bys_one (x : Int) : ∀ u ∈ [Value.int .u8 x], u.oneCell' = true := by
  intro u hu
  simp at hu
  subst hu
  rfl
theorem bys_byts (L : List Int) : bys L = byts (fun i => L.getD i 0) L.length := by
  unfold bys byts
  apply List.ext_getElem
  · simp
  · intro i h1 h2
    simp at h1
    simp [h1]
theorem nums_list (L : List Int) : nums (fun i => L.getD i 0) L.length = L := by
  unfold nums
  apply List.ext_getElem
  · simp
  · intro i h1 h2
    simp [h2]
theorem bys_step {L : List Int} {w wr w1 : World} {v v' : Value} {o : Obj} {x : Int} (hO : wr.ownsRow w.heap.size 5 1 v L.length (bys L)) (hE : Ext w wr)
    (hown : w1.ownsRow w.heap.size 5 1 v' (L.length + 1) (bys L ++ [.int .u8 x])) (hg : (wr.alloc o).grownBy w1 v.ownBlock) : w1.ownsRow w.heap.size 5 1 v' (L ++ [x]).length (bys (L ++ [x])) ∧ Ext w w1 := by
  refine ⟨?_, (Below.alloc hE (Below.size hE) o).grown hg (by have := Below.size hE; simp; omega) (fun j hj => (hO.lt j hj).1)⟩
  simpa [bys] using hown

/-- A new list of bytes. -/
def GivesO (w : World) (L : List Int) (e : Ending) (w' : World) : Prop := ∃ v, e = .returned v ∧ w'.ownsRow w.heap.size 5 1 v L.length (bys L) ∧ Ext w w'

set_option maxHeartbeats 800000 in
set_option maxRecDepth 100000 in
theorem nearBytes_any (a : Option Addr) (b off n cap : Nat) (f : Nat → Int) (w : World) (hs : Seg w a b off n f) (hn : n ≤ 20) (hf : ∀ i, i < n → 0 ≤ f i ∧ f i ≤ 1114111) :
    Calls Try.prog 31 #[.slice a n cap] w fun e w' => GivesO w (nearL f n) e w' := by
  obtain ⟨i0, hi, hz0, hz1, hz2⟩ := info_parts Try.info5
  have HO := hide (World.ownsRow_made (base := w.heap.size) (e := 5) (size := 1) w #[] 0 (Nat.le_refl _) (by simp) rfl)
  have HF := hide hf
  clear hf
  go_enter Try.func31, Try.ntmps31
  go_wp2
  go_loopw [3, 9] (fun v i wr => ∃ k : Nat, k ≤ n ∧ i = .int .i64 k ∧ wr.ownsRow w.heap.size 5 1 v (nearL f k).length (bys (nearL f k)) ∧ Ext w wr) (fun _ i _ => n - (intOf i).toNat)
  case atStart => exact ⟨0, Nat.zero_le _, rfl, HO.out, Ext.alloc _ _⟩
  case round =>
    clear HO
    obtain ⟨k, hk, rfl, hO, hE⟩ := hrel
    have HO := hide hO
    have HE := hide hE
    clear hO hE
    by_cases hlt : k < n
    · have hkn : (k : Int) < (n : Int) := by omega
      obtain rfl := hs.at' (by omega)
      have hc := (hs.of_all HE.out).cell k hlt
      obtain ⟨f0, f1⟩ := HF.out k hlt
      have HN : Hid (nearL f (k + 1) = if f k < 128 then nearL f k ++ [f k] else nearL f k) := rfl
      have HL : Hid ((nearL f k).length ≤ k) := by show _ ≤ _; rw [nearL_len]; exact cnt_le _ _ _
      generalize nearL f k = N at *
      by_cases c : f k < 128
      · have g : f k % 256 = f k := by omega
        have HQ : Hid (nearL f (k + 1) = N ++ [f k]) := by show _ = _; rw [HN.out, if_pos c]
        clear HN
        generalize f k = x at *
        go_wp2_with (at_builtin; refine wpList_append_own _ rfl _ _ 28 rfl w.heap.size 5 i0 (.int .u8 0) 1 1 Try.underlying28 hi hz0 hz1 hz2 rfl (by decide) _ _ _ rfl (HO.out.alloc _) ⟨wr.heap.size, 0, none⟩ 1 1 [.int .u8 x] rfl rfl (cell_one_new _ _ _) (bys_one _) (by have := HL.out; unfold maxLen; omega) (by have := HL.out; omega) (by have := Below.size HE.out; simp; omega) ?_; intro v' w1 hown' hgrow hnil)
        have HN := hide (bys_step HO.out HE.out hown' hgrow)
        clear hown' hgrow hnil
        go_wp2
        go_roundw
        case rel => exact ⟨k + 1, by omega, by go_num, by rw [HQ.out]; exact HN.out.1, HN.out.2⟩
        case measure => simp [intOf]; omega
      · have HQ : Hid (nearL f (k + 1) = N) := by show _ = _; rw [HN.out, if_neg c]
        clear HN
        go_wp2
        go_roundw
        case rel => exact ⟨k + 1, by omega, by go_num, by rw [HQ.out]; exact HO.out, HE.out⟩
        case measure => simp [intOf]; omega
    · obtain rfl : k = n := by omega
      go_wp2
      go_ret
      exact ⟨_, rfl, HO.out, HE.out⟩

set_option maxHeartbeats 400000 in
theorem leastFrom_any (a : Option Addr) (b off n cap : Nat) (f : Nat → Int) (m : Int) (w : World) (hs : Seg w a b off n f) (hn : n ≤ 20) :
    Calls Try.prog 32 #[.slice a n cap, .int .i64 m] w fun e w' => e = .returned (.int .i64 (lst f m 1114111 n)) ∧ w' = w := by
  go_enter Try.func32, Try.ntmps32
  go_wp2
  go_loop [5, 10] (fun v i => ∃ k : Nat, k ≤ n ∧ i = .int .i64 k ∧ v = .int .i64 (lst f m 1114111 k)) (fun _ i => n - (intOf i).toNat)
  case atStart => exact ⟨0, Nat.zero_le _, rfl, rfl⟩
  case round =>
    obtain ⟨k, hk, rfl, rfl⟩ := hrel
    by_cases hlt : k < n
    · have hkn : (k : Int) < (n : Int) := by omega
      obtain rfl := hs.at' (by omega)
      have hc := hs.cell k hlt
      have HN : Hid (lst f m 1114111 (k + 1) = if m ≤ f k then min (lst f m 1114111 k) (f k) else lst f m 1114111 k) := rfl
      generalize lst f m 1114111 k = x at *
      by_cases c : m ≤ f k
      · have HQ : Hid (lst f m 1114111 (k + 1) = min x (f k)) := by show _ = _; rw [HN.out, if_pos c]
        clear HN
        generalize f k = y at *
        go_wp2
        go_round
        case rel => exact ⟨k + 1, by omega, by go_num, by rw [HQ.out]; congr 1; split <;> omega⟩
        case measure => simp [intOf]; omega
      · have HQ : Hid (lst f m 1114111 (k + 1) = x) := by show _ = _; rw [HN.out, if_neg c]
        clear HN
        go_wp2
        go_round
        case rel => exact ⟨k + 1, by omega, by go_num, by rw [HQ.out]⟩
        case measure => simp [intOf]; omega
    · obtain rfl : k = n := by omega
      go_wp2
      go_ret
      exact ⟨rfl, rfl⟩

/-- The program's puny state. -/
def psV (near told bias : Int) : Value := .agg #[.int .i64 near, .int .i64 told, .int .i64 bias]

theorem newPunyState_any (x : Int) (w : World) :
    Calls Try.prog 24 #[.int .i64 x] w fun e w' => e = .returned (psV x x 72) ∧ Ext w w' := by
  go_enter Try.func24, Try.ntmps24
  go_wp2
  exact bodyPost_ret (results_cell_row (P := Try.prog) Try.results24 _ _ w.heap.size _ _ _ _ rfl (heap_alloc_new w _) Try.underlying42 rfl (by kernel_rfl)) rfl ⟨rfl, Ext.alloc _ _⟩

theorem threshold_any (near told bias : Int) (j : Nat) (hb0 : 0 ≤ bias) (hb1 : bias ≤ 4000000000) (hj : j ≤ 100000000) (w : World) :
    Calls Try.prog 45 #[psV near told bias, .int .i64 (j : Int)] w fun e w' => e = .returned (.int .i64 (thr (36 * (j + 1)) bias)) ∧ Ext w w' := by
  unfold psV
  have HT : Hid (min (max (36 * ((j : Int) + 1) - bias) 1) 26 = thr (36 * (j + 1)) bias) := by show _ = _; unfold thr; omega
  have g : wrap64 (36 * ((j : Int) + 1) - bias) = 36 * ((j : Int) + 1) - bias := by unfold wrap64; omega
  generalize thr (36 * (j + 1)) bias = T at *
  by_cases c1 : 36 * ((j : Int) + 1) - bias < 1
  · have HX : Hid (1 = T) := by show _ = _; rw [← HT.out]; omega
    go_enter Try.func45, Try.ntmps45
    go_wp2
    go_ret
    exact ⟨ret_int HX.out, Ext.alloc _ _⟩
  · by_cases c2 : 26 < 36 * ((j : Int) + 1) - bias
    · have HX : Hid (26 = T) := by show _ = _; rw [← HT.out]; omega
      go_enter Try.func45, Try.ntmps45
      go_wp2
      go_ret
      exact ⟨ret_int HX.out, Ext.alloc _ _⟩
    · have HX : Hid (36 * ((j : Int) + 1) - bias = T) := by show _ = _; rw [← HT.out]; omega
      go_enter Try.func45, Try.ntmps45
      go_wp2
      go_ret
      exact ⟨ret_int HX.out, Ext.alloc _ _⟩

theorem bys_step' {L : List Int} {B : Nat} {wr w1 : World} {v v' : Value} {o : Obj} {x : Int} (hO : wr.ownsRow B 5 1 v L.length (bys L)) (hB : B ≤ wr.heap.size)
    (hown : w1.ownsRow B 5 1 v' (L.length + 1) (bys L ++ [.int .u8 x])) (hg : (wr.alloc o).grownBy w1 v.ownBlock) : w1.ownsRow B 5 1 v' (L ++ [x]).length (bys (L ++ [x])) ∧ Below B wr w1 :=
  ⟨by simpa [bys] using hown, ((Below.refl B wr).alloc hB o).grown hg (by simp; omega) (fun j hj => (hO.lt j hj).1)⟩

theorem rem_dig {z T : Int} (h1 : 1 ≤ T) (h2 : T ≤ 26) (h : ¬ z < T) : 0 ≤ (z - T) % (36 - T) ∧ T + (z - T) % (36 - T) < 36 := by
  have h3 := Int.emod_nonneg (z - T) (show 36 - T ≠ 0 by omega)
  have h4 := Int.emod_lt_of_pos (z - T) (show 0 < 36 - T by omega)
  omega

set_option maxHeartbeats 1600000 in
set_option maxRecDepth 100000 in
theorem digits_any (near told bias q0 : Int) (hb0 : 0 ≤ bias) (hb1 : bias ≤ 2000000000) (hq0 : 0 ≤ q0) (hq1 : q0 ≤ 30000000) (w : World) :
    Calls Try.prog 33 #[psV near told bias, .int .i64 q0] w fun e w' => GivesO w (dgs bias q0) e w' := by
  obtain ⟨i0, hi, hz0, hz1, hz2⟩ := info_parts Try.info5
  unfold psV
  have HT : Hid (∀ (j : Nat), j ≤ 100000000 → ∀ w, Calls Try.prog 45 #[.agg #[.int .i64 near, .int .i64 told, .int .i64 bias], .int .i64 (j : Int)] w fun e w' => e = .returned (.int .i64 (thr (36 * (j + 1)) bias)) ∧ Ext w w') := fun j hj w => threshold_any near told bias j hb0 (by omega) hj w
  have HD : Hid (∀ x, 0 ≤ x → x < 36 → ∀ w, Calls Try.prog 49 #[.int .i64 x] w fun e w' => e = .returned (.int .u8 (pd x)) ∧ w' = w) := fun x h0 h1 w => digitByte_any x h0 h1 w
  have HB := hide (Blk.alloc w [.int .i64 near, .int .i64 told, .int .i64 bias] 42)
  have HO := hide (World.ownsRow_made (base := w.heap.size + 1) (e := 5) (size := 1) (w.alloc (.cells #[.int .i64 near, .int .i64 told, .int .i64 bias] 42)) #[] 0 (by simp) (by simp) rfl)
  rw [show (w.alloc (.cells #[.int .i64 near, .int .i64 told, .int .i64 bias] 42)).heap.size = w.heap.size + 1 by simp] at HO
  have HE0 : Hid (Ext w ((w.alloc (.cells #[.int .i64 near, .int .i64 told, .int .i64 bias] 42)).alloc (.cells #[] 5))) := Ext.trans (Ext.alloc _ _) (Ext.alloc _ _)
  go_enter Try.func33, Try.ntmps33
  go_wp2
  go_loopw [1, 5] (fun q v wr => ∃ (F : Nat) (z : Int) (acc : List Int), q = .int .i64 z ∧ z.toNat < F ∧ 0 ≤ z ∧ acc.length + z ≤ q0 ∧ acc ++ pdig bias F (36 * ((acc.length : Int) + 1)) z = dgs bias q0 ∧ Blk wr w.heap.size [.int .i64 near, .int .i64 told, .int .i64 bias] ∧ w.heap.size < wr.heap.size ∧ wr.ownsRow (w.heap.size + 1) 5 1 v acc.length (bys acc) ∧ Ext w wr) (fun q _ _ => (intOf q).toNat)
  case atStart =>
    refine ⟨q0.toNat + 1, q0, [], rfl, Nat.lt_succ_self _, hq0, by simp, rfl, ?_, by simp; omega, HO.out, HE0.out⟩
    exact HB.out.ext (Ext.alloc _ _) (by simp)
  case round =>
    clear HO HB HE0
    obtain ⟨F, z, acc, rfl, hF, z0, hz1', hA, hB, hlt, hO, hE⟩ := hrel
    obtain ⟨c0, -⟩ := hB 0 _ rfl
    obtain ⟨c1, -⟩ := hB 1 _ rfl
    obtain ⟨c2, -⟩ := hB 2 _ rfl
    have HB := hide hB
    have HO := hide hO
    have HE := hide hE
    have HA := hide hA
    have HF := hide hF
    have Hlt := hide hlt
    obtain ⟨va, vg, vc, rfl, hvg, hvn, hvc, hvB⟩ := owns_seg (f := fun i => acc.getD i 0) (by rw [← bys_byts]; exact hO)
    clear hB hO hE hA hF hlt hvg hvB hvn hvc
    have hal : acc.length ≤ 30000000 := by omega
    go_wp2_with fail
    refine (HT.out acc.length (by omega) _).mono ?_
    rintro e w2 ⟨rfl, hE2⟩
    have HO2 := hide (owns_ext' HO.out hE2)
    have HB2 := hide (HB.out.ext hE2 Hlt.out)
    have HE2 := hide (Ext.trans HE.out hE2)
    have Hlt2 : Hid (w.heap.size < w2.heap.size) := Nat.lt_of_lt_of_le Hlt.out (Below.size hE2)
    clear hE2 HO HB HE Hlt c0 c1 c2
    have t1 := thr_ge (36 * ((acc.length : Int) + 1)) bias
    have t2 := thr_le (36 * ((acc.length : Int) + 1)) bias
    have HM : Hid (z < thr (36 * ((acc.length : Int) + 1)) bias → pdig bias F (36 * ((acc.length : Int) + 1)) z = [pd z]) := fun h => pdig_last HF.out h
    have HR : Hid (¬ z < thr (36 * ((acc.length : Int) + 1)) bias → ∃ G, ((z - thr (36 * ((acc.length : Int) + 1)) bias) / (36 - thr (36 * ((acc.length : Int) + 1)) bias)).toNat < G ∧ pdig bias F (36 * ((acc.length : Int) + 1)) z = pd (thr (36 * ((acc.length : Int) + 1)) bias + (z - thr (36 * ((acc.length : Int) + 1)) bias) % (36 - thr (36 * ((acc.length : Int) + 1)) bias)) :: pdig bias G (36 * ((acc.length : Int) + 1) + 36) ((z - thr (36 * ((acc.length : Int) + 1)) bias) / (36 - thr (36 * ((acc.length : Int) + 1)) bias))) := fun h => pdig_more HF.out h
    generalize thr (36 * ((acc.length : Int) + 1)) bias = T at *
    by_cases hz : z < T
    · have HX : Hid (acc ++ [pd z] = dgs bias q0) := by show _ = _; rw [← HA.out, HM.out hz]
      clear HM HR HA
      go_wp2_with (first | (go_at_call 49; refine (HD.out _ z0 (by omega) _).mono ?_; rintro e w3 ⟨rfl, hw⟩; obtain rfl := hw.symm) | (at_builtin; refine wpList_append_own _ rfl _ _ 28 rfl (w.heap.size + 1) 5 i0 (.int .u8 0) 1 1 Try.underlying28 hi hz0 hz1 hz2 rfl (by decide) _ _ _ rfl (HO2.out.alloc _) ⟨w2.heap.size, 0, none⟩ 1 1 [.int .u8 (pd z)] rfl rfl (cell_one_new _ _ _) (bys_one _) (by unfold maxLen; omega) (by omega) (by have := Hlt2.out; simp; omega) ?_; intro v' w4 hown' hgrow hnil))
      have HN := hide (bys_step' HO2.out (by have := Hlt2.out; omega) hown' hgrow)
      clear hown' hgrow hnil
      rw [HX.out] at HN
      go_wp2
      go_ret
      exact ⟨_, rfl, owns_mono HN.out.1 (Nat.le_succ _), Below.trans HE2.out (HN.out.2.mono (Nat.le_succ _))⟩
    · obtain ⟨G, hG, he⟩ := HR.out hz
      obtain ⟨r0, r1⟩ := rem_dig t1 t2 hz
      obtain ⟨q1', q2'⟩ := quo_less t1 t2 (Int.not_lt.1 hz)
      have HX : Hid ((acc ++ [pd (T + (z - T) % (36 - T))]) ++ pdig bias G (36 * (((acc ++ [pd (T + (z - T) % (36 - T))]).length : Int) + 1)) ((z - T) / (36 - T)) = dgs bias q0) := by
        show _ = _
        rw [← HA.out, he, List.append_assoc, List.length_append, List.length_singleton, show 36 * (((acc.length + 1 : Nat) : Int) + 1) = 36 * ((acc.length : Int) + 1) + 36 by omega]
        rfl
      have HG := hide hG
      have m1 : (z - T).tmod (36 - T) = (z - T) % (36 - T) := Int.tmod_eq_emod_of_nonneg (by omega)
      have m2 : (z - T).tdiv (36 - T) = (z - T) / (36 - T) := Int.tdiv_eq_ediv_of_nonneg (by omega)
      have m3 : (36 - T == 0) = false := by simp; omega
      clear HM HR HA he hG
      generalize (z - T) % (36 - T) = r at *
      generalize (z - T) / (36 - T) = y at *
      have m4 : wrap64 r = r := by unfold wrap64; omega
      have m5 : wrap64 y = y := by unfold wrap64; omega
      have m6 : wrap64 (T + r) = T + r := by unfold wrap64; omega
      go_wp2_with (first | (go_at_call 49; refine (HD.out _ (by omega) r1 _).mono ?_; rintro e w3 ⟨rfl, hw⟩; obtain rfl := hw.symm) | (at_builtin; refine wpList_append_own _ rfl _ _ 28 rfl (w.heap.size + 1) 5 i0 (.int .u8 0) 1 1 Try.underlying28 hi hz0 hz1 hz2 rfl (by decide) _ _ _ rfl (HO2.out.alloc _) ⟨w2.heap.size, 0, none⟩ 1 1 [.int .u8 (pd (T + r))] rfl rfl (cell_one_new _ _ _) (bys_one _) (by unfold maxLen; omega) (by omega) (by have := Hlt2.out; simp; omega) ?_; intro v' w4 hown' hgrow hnil))
      have HN := hide (bys_step' HO2.out (by have := Hlt2.out; omega) hown' hgrow)
      clear hown' hgrow hnil
      go_wp2
      go_roundw
      case rel =>
        refine ⟨G, y, acc ++ [pd (T + r)], rfl, HG.out, q1', by simp; omega, HX.out, HB2.out.below HN.out.2 (Nat.lt_succ_self _), ?_, HN.out.1, Below.trans HE2.out (HN.out.2.mono (Nat.le_succ _))⟩
        exact Nat.lt_of_lt_of_le Hlt2.out (Below.size HN.out.2)
      case measure => simp [intOf]; omega

set_option maxHeartbeats 1600000 in
set_option maxRecDepth 100000 in
theorem behind_any (near told bias d : Int) (ht0 : 0 ≤ told) (ht1 : told ≤ 90) (hd0 : 0 ≤ d) (hd1 : d ≤ 30000000) (w : World) :
    Calls Try.prog 26 #[psV near told bias, .int .i64 d] w fun e w' => e = .returned (psV near (told + 1) (pbias d (told + 1) (told == near))) ∧ Ext w w' := by
  unfold psV
  have hm0 : (told + 1 == 0) = false := by simp; omega
  have q1 : d.tdiv 700 = d / 700 := Int.tdiv_eq_ediv_of_nonneg hd0
  have q2 : d.tdiv 2 = d / 2 := Int.tdiv_eq_ediv_of_nonneg hd0
  have HE : Hid (∀ x, x = (if (told == near) = true then d / 700 else d / 2) + (if (told == near) = true then d / 700 else d / 2) / (told + 1) → pbias d (told + 1) (told == near) = blP x.toNat x 0) := fun x hx => pbias_eq d (told + 1) (told == near) hx
  have hd : 0 ≤ (if (told == near) = true then d / 700 else d / 2) ∧ (if (told == near) = true then d / 700 else d / 2) ≤ 15000000 := by split <;> omega
  generalize hdd : (if (told == near) = true then d / 700 else d / 2) = x at *
  have q3 : x.tdiv (told + 1) = x / (told + 1) := Int.tdiv_eq_ediv_of_nonneg hd.1
  have h4 := Int.ediv_nonneg hd.1 (show 0 ≤ told + 1 by omega)
  have h5 := Int.ediv_le_self (told + 1) hd.1
  obtain ⟨y, hy⟩ : ∃ y, y = x + x / (told + 1) := ⟨_, rfl⟩
  have HY := hide (HE.out y hy)
  have hy0 : 0 ≤ y := by omega
  have hy1 : y ≤ 30000000 := by omega
  have g1 : wrap64 (x + x / (told + 1)) = y := by rw [hy]; unfold wrap64; omega
  have g2 : x + x / (told + 1) = y := hy.symm
  have g3 : wrap64 (x / (told + 1)) = x / (told + 1) := by unfold wrap64; omega
  clear HE hy h4 h5
  generalize pbias d (told + 1) (told == near) = PB at *
  cases hb : (told == near)
  · rw [hb] at hdd
    simp only [Bool.false_eq_true, if_false] at hdd
    go_enter Try.func26, Try.ntmps26
    go_wp2
    clear hdd q1 q2 q3 g1 g2 g3 hm0
    go_loop [5, 6] (fun v c => ∃ (F : Nat) (z k : Int), v = .int .i64 z ∧ c = .int .i64 k ∧ z.toNat ≤ F ∧ 0 ≤ z ∧ z ≤ 30000000 ∧ 0 ≤ k ∧ k + 36 * z ≤ 1200000000 ∧ blP F z k = PB) (fun v _ => (intOf v).toNat)
    case atStart => exact ⟨y.toNat, y, 0, rfl, rfl, Nat.le_refl _, hy0, hy1, Int.le_refl _, by omega, HY.out.symm⟩
    case round =>
      obtain ⟨F, z, k, rfl, rfl, z1, z2, z3, k0, k1, hb⟩ := hrel
      have HB := hide hb
      clear hb
      by_cases hz : 455 < z
      · obtain ⟨G, hG, he⟩ := blP_more (k := k) z1 hz
        have HG : Hid (blP G (z / 35) (k + 36) = PB) := by show _ = _; rw [← he]; exact HB.out
        have q : z.tdiv 35 = z / 35 := Int.tdiv_eq_ediv_of_nonneg z2
        have HH := hide hG
        clear he HB hG
        go_wp2
        go_round
        case rel => exact ⟨G, z / 35, k + 36, rfl, by go_num, HH.out, by omega, by omega, by omega, by omega, HG.out⟩
        case measure => simp [intOf]; omega
      · have he := blP_end (F := F) (k := k) hz
        have HG : Hid (PB = k + 36 * z / (z + 38)) := by show _ = _; rw [← he]; exact HB.out.symm
        obtain ⟨f0, f1⟩ := frac_le z2
        have q : (36 * z).tdiv (z + 38) = 36 * z / (z + 38) := Int.tdiv_eq_ediv_of_nonneg (by omega)
        have p0 : (z + 38 == 0) = false := by simp; omega
        clear he HB HY
        generalize 36 * z / (z + 38) = fr at *
        have w1 : wrap64 fr = fr := by unfold wrap64; omega
        have w2 : wrap64 (k + fr) = k + fr := by unfold wrap64; omega
        go_wp2
        exact bodyPost_ret (results_cell_row (P := Try.prog) Try.results26 _ _ (w.heap.size + 1) _ #[.int .i64 near, .int .i64 (told + 1), .int .i64 (k + fr)] _ _ rfl (by have := heap_alloc_new (w.alloc (.cells #[.int .i64 near, .int .i64 (told + 1), .int .i64 (k + fr)] 42)) (.cells #[.int .i64 near, .int .i64 (told + 1), .int .i64 (k + fr)] 42); rw [show (w.alloc (.cells #[.int .i64 near, .int .i64 (told + 1), .int .i64 (k + fr)] 42)).heap.size = w.heap.size + 1 by simp] at this; exact this) Try.underlying42 rfl (by kernel_rfl)) rfl ⟨by rw [HG.out], Ext.trans (Ext.alloc _ _) (Ext.alloc _ _)⟩
  · rw [hb] at hdd
    simp only [if_true] at hdd
    go_enter Try.func26, Try.ntmps26
    go_wp2
    clear hdd q1 q2 q3 g1 g2 g3 hm0
    go_loop [5, 6] (fun v c => ∃ (F : Nat) (z k : Int), v = .int .i64 z ∧ c = .int .i64 k ∧ z.toNat ≤ F ∧ 0 ≤ z ∧ z ≤ 30000000 ∧ 0 ≤ k ∧ k + 36 * z ≤ 1200000000 ∧ blP F z k = PB) (fun v _ => (intOf v).toNat)
    case atStart => exact ⟨y.toNat, y, 0, rfl, rfl, Nat.le_refl _, hy0, hy1, Int.le_refl _, by omega, HY.out.symm⟩
    case round =>
      obtain ⟨F, z, k, rfl, rfl, z1, z2, z3, k0, k1, hb⟩ := hrel
      have HB := hide hb
      clear hb
      by_cases hz : 455 < z
      · obtain ⟨G, hG, he⟩ := blP_more (k := k) z1 hz
        have HG : Hid (blP G (z / 35) (k + 36) = PB) := by show _ = _; rw [← he]; exact HB.out
        have q : z.tdiv 35 = z / 35 := Int.tdiv_eq_ediv_of_nonneg z2
        have HH := hide hG
        clear he HB hG
        go_wp2
        go_round
        case rel => exact ⟨G, z / 35, k + 36, rfl, by go_num, HH.out, by omega, by omega, by omega, by omega, HG.out⟩
        case measure => simp [intOf]; omega
      · have he := blP_end (F := F) (k := k) hz
        have HG : Hid (PB = k + 36 * z / (z + 38)) := by show _ = _; rw [← he]; exact HB.out.symm
        obtain ⟨f0, f1⟩ := frac_le z2
        have q : (36 * z).tdiv (z + 38) = 36 * z / (z + 38) := Int.tdiv_eq_ediv_of_nonneg (by omega)
        have p0 : (z + 38 == 0) = false := by simp; omega
        clear he HB HY
        generalize 36 * z / (z + 38) = fr at *
        have w1 : wrap64 fr = fr := by unfold wrap64; omega
        have w2 : wrap64 (k + fr) = k + fr := by unfold wrap64; omega
        go_wp2
        exact bodyPost_ret (results_cell_row (P := Try.prog) Try.results26 _ _ (w.heap.size + 1) _ #[.int .i64 near, .int .i64 (told + 1), .int .i64 (k + fr)] _ _ rfl (by have := heap_alloc_new (w.alloc (.cells #[.int .i64 near, .int .i64 (told + 1), .int .i64 (k + fr)] 42)) (.cells #[.int .i64 near, .int .i64 (told + 1), .int .i64 (k + fr)] 42); rw [show (w.alloc (.cells #[.int .i64 near, .int .i64 (told + 1), .int .i64 (k + fr)] 42)).heap.size = w.heap.size + 1 by simp] at this; exact this) Try.underlying42 rfl (by kernel_rfl)) rfl ⟨by rw [HG.out], Ext.trans (Ext.alloc _ _) (Ext.alloc _ _)⟩

end Go.Proofs.Ytjpdllhhganbpaa
