/- Walks: texts as names are compared, NameSame of both. Walks: parts of a text, labels, HostOk of both. Walks: labels and HostOk of both. Walks: HostOk of both, digits. Walks: PatternOk, HostMatch, Under of both. -/
import Derived.Lib.Strings
import Derived.Laws.Rows
import Derived.Deep.DeepBigQuietO
import Derived.Laws.AppendOwn
import Derived.Laws.CopyRow
import Derived.RowKit
import Derived.Lib.SmallJoins
import Derived.Handy
import Derived.Test.YtfhiiakoilkbkaaGreatDoorCv27
import Derived.Lib.Bytealg
import Derived.OwnWalk
namespace Go.Proofs.YtfhiiakoilkbkaaGreatDoor
set_option linter.unusedVariables false
set_option linter.unusedSimpArgs false
section
open Go.RowKit
theorem str_cells {w : World} {K cap i : Nat} {s : ByteArray} {x : Nat × Nat} (h : w.heap[K]? = some (.cells (bytesRow s cap) 5 x)) (hi : i < s.size) : w.cell? ⟨K, i, none⟩ = some (.int .u8 (bt s i)) := by
 simp only [World.cell?, h]
 have : (bytesRow s cap)[i]? = some (.int .u8 (bt s i)) := by
  unfold bytesRow
  rw [Array.getElem?_append_left (by simpa using hi)]
  rw [Array.getElem?_map, Array.getElem?_eq_getElem (by simpa using hi)]
  simp only [Option.map_some]
  rw [← bt_get s i hi]
  rfl
 simpa using this
def partsFrom (s : ByteArray) (m : Nat) : Nat → Nat → Nat → List ByteArray
 | 0, k, fr => [s.extract fr s.size]
 | n + 1, k, fr => if bt s k = m then s.extract fr k :: partsFrom s m n (k + 1) (k + 1) else partsFrom s m n (k + 1) fr
def parts (s : ByteArray) (m : Nat) : List ByteArray := partsFrom s m s.size 0 0
theorem partsFrom_ne (s : ByteArray) (m : Nat) : ∀ n k fr, 1 ≤ (partsFrom s m n k fr).length
 | 0, k, fr => by simp [partsFrom]
 | n + 1, k, fr => by
  unfold partsFrom
  split
  ·simp
  ·exact partsFrom_ne s m n _ _
theorem parts_ne (s : ByteArray) (m : Nat) : 1 ≤ (parts s m).length := partsFrom_ne s m _ _ _
theorem partsFrom_le (s : ByteArray) (m : Nat) : ∀ n k fr, (partsFrom s m n k fr).length ≤ n + 1
 | 0, k, fr => by simp [partsFrom]
 | n + 1, k, fr => by
  unfold partsFrom
  split
  ·have := partsFrom_le s m n (k + 1) (k + 1); simp; omega
  ·have := partsFrom_le s m n (k + 1) fr; omega
theorem parts_le (s : ByteArray) (m : Nat) : (parts s m).length ≤ s.size + 1 := partsFrom_le s m _ _ _
theorem partsFrom_skip (s : ByteArray) (m : Nat) (fr : Nat) : ∀ q n k, (∀ j, k ≤ j → j < k + q → bt s j ≠ m) → partsFrom s m (n + q) k fr = partsFrom s m n (k + q) fr
 | 0, n, k, _ => rfl
 | q + 1, n, k, h => by
  rw [← Nat.add_assoc, partsFrom, if_neg (h k (Nat.le_refl _) (by omega)), partsFrom_skip s m fr q n (k + 1) (fun j h1 h2 => h j (by omega) (by omega))]
  congr 1
  omega
def nth (L : List ByteArray) (i : Nat) : ByteArray := L.getD i ⟨#[]⟩
def strs (L : List ByteArray) : List Value := L.map .string
theorem strs_one (s : ByteArray) : ∀ u ∈ [Value.string s], u.oneCell' = true := by
 intro u hu
 simp at hu
 subst hu
 rfl
def GivesL (w : World) (L : List ByteArray) (e : Ending) (w' : World) : Prop :=
 ∃ g cap, e = .returned (.slice (some ⟨g, 0, none⟩) L.length cap) ∧ (∀ i, i < L.length → w'.cell? ⟨g, i, none⟩ = some (.string (nth L i))) ∧ Ext w w'
theorem owns_strs {w : World} {B : Nat} {v : Value} {L : List ByteArray} (h : w.ownsRow B 9 1 v L.length (strs L)) (hL : 1 ≤ L.length) :
  ∃ g cap, v = .slice (some ⟨g, 0, none⟩) L.length cap ∧ ∀ i, i < L.length → w.cell? ⟨g, i, none⟩ = some (.string (nth L i)) := by
 rcases h.2 with ⟨rfl, h0⟩ | ⟨g, cap, cur, rfl, hg, hb, hn, hm, hs, ht⟩
 ·omega
 ·refine ⟨g, cap, rfl, fun i hi => ?_⟩
  have hx : (cur.toList.take (L.length * 1))[i]? = some (.string (nth L i)) := by rw [ht]; simp [strs, nth, hi]
  rw [List.getElem?_take] at hx
  simp only [Nat.mul_one, hi, if_true] at hx
  simp [World.cell?, hb]
  simpa using hx
theorem strs_step {acc : List ByteArray} {w wr w1 : World} {v v' : Value} {o : Obj} {x : ByteArray} (hO : wr.ownsRow w.heap.size 9 1 v acc.length (strs acc)) (hE : Ext w wr)
  (hown : w1.ownsRow w.heap.size 9 1 v' (acc.length + 1) (strs acc ++ [.string x])) (hg : (wr.alloc o).grownBy w1 v.ownBlock) : w1.ownsRow w.heap.size 9 1 v' (acc ++ [x]).length (strs (acc ++ [x])) ∧ Ext w w1 := by
 refine ⟨?_, (Below.alloc hE (Below.size hE) o).grown hg (by have := Below.size hE; simp; omega) (fun j hj => (hO.lt j hj).1)⟩
 simpa [strs] using hown
set_option maxHeartbeats 1600000 in
set_option maxRecDepth 100000 in
theorem l8Parts_any (s : ByteArray) (m : Nat) (hs : s.size ≤ 1048576) (hm : m < 256) (w : World) :
  Calls Tryz.prog 147 #[.string s, .int .u8 (m : Int)] w fun e w' => GivesL w (parts s m) e w' := by
 obtain ⟨i0, hi, hz0, hz1, hz2⟩ := info_parts Tryz.infoS
 have HO := hide (World.ownsRow_made (base := w.heap.size) (e := 9) (size := 1) w #[] 0 (Nat.le_refl _) (by simp) rfl)
 go_enter Tryz.func147, Tryz.ntmps147
 go_wp2
 go_loopw [5, 6, 7] (fun v f i wr => ∃ k fr : Nat, k ≤ s.size ∧ fr ≤ k ∧ i = .int .i64 k ∧ f = .int .i64 fr ∧ ∃ acc : List ByteArray, acc.length ≤ k ∧ wr.ownsRow w.heap.size 9 1 v acc.length (strs acc) ∧ Ext w wr ∧ acc ++ partsFrom s m (s.size - k) k fr = parts s m) (fun _ _ i _ => s.size - (intOf i).toNat)
 case atStart => exact ⟨0, 0, Nat.zero_le _, Nat.le_refl _, rfl, rfl, [], Nat.le_refl _, HO.out, Ext.alloc _ _, rfl⟩
 case round =>
  clear HO
  obtain ⟨k, fr, hk, hfk, rfl, rfl, acc, hal, hO, hE, hP⟩ := hrel
  have HO := hide hO
  have HE := hide hE
  have HP := hide hP
  have Hal := hide hal
  have Hfk := hide hfk
  clear hO hE hP hal hfk
  by_cases hlt : k < s.size
  ·have hb := bt_get s k hlt
   have h2 := bt_lt s k
   have hkn : (k : Int) < (s.size : Int) := by omega
   have hkn' : (k : Int) ≤ (s.size : Int) := by omega
   have hfk' : (fr : Int) ≤ (k : Int) := by have := Hfk.out; omega
   have HF : Hid (partsFrom s m (s.size - k) k fr = if bt s k = m then s.extract fr k :: partsFrom s m (s.size - (k + 1)) (k + 1) (k + 1) else partsFrom s m (s.size - (k + 1)) (k + 1) fr) := by
    show _ = _
    rw [show s.size - k = (s.size - (k + 1)) + 1 by omega, partsFrom]
   generalize bt s k = c at *
   by_cases he : c = m
   ·subst he
    have HX : Hid ((acc ++ [s.extract fr k]) ++ partsFrom s c (s.size - (k + 1)) (k + 1) (k + 1) = parts s c) := by
     show _ = _
     rw [← HP.out, HF.out, if_pos rfl]
     simp
    go_wp2_with (at_builtin; refine wpList_append_own _ rfl _ _ 22 rfl w.heap.size 9 i0 (.string ⟨#[]⟩) 1 16 Tryz.underlying22 hi hz0 hz1 hz2 rfl (by decide) _ _ _ rfl (HO.out.alloc _) ⟨wr.heap.size, 0, none⟩ 1 1 [.string (s.extract fr k)] rfl rfl (cell_one_new _ _ _) (strs_one _) (by have := Hal.out; unfold maxLen; omega) (by have := Hal.out; omega) (by have := Below.size HE.out; simp; omega) ?_; intro v' w1 hown' hgrow hnil)
    have HN := hide (strs_step HO.out HE.out hown' hgrow)
    clear hown' hgrow hnil
    go_wp2
    go_roundw
    case rel => exact ⟨k + 1, k + 1, by omega, Nat.le_refl _, by go_num, by go_num, acc ++ [s.extract fr k], by have := Hal.out; simp; omega, HN.out.1, HN.out.2, HX.out⟩
    case measure => simp [intOf]; omega
   ·have hne : ((c : Int) == (m : Int)) = false := by simp; omega
    have HX : Hid (acc ++ partsFrom s m (s.size - (k + 1)) (k + 1) fr = parts s m) := by
     show _ = _
     rw [← HP.out, HF.out, if_neg he]
    go_wp2
    go_roundw
    case rel => exact ⟨k + 1, fr, by omega, by have := Hfk.out; omega, by go_num, rfl, acc, by have := Hal.out; omega, HO.out, HE.out, HX.out⟩
    case measure => simp [intOf]; omega
  ·obtain rfl : k = s.size := by omega
   have hfk' : (fr : Int) ≤ (s.size : Int) := by have := Hfk.out; omega
   have HX : Hid (acc ++ [s.extract fr s.size] = parts s m) := by
    show _ = _
    rw [← HP.out, Nat.sub_self, partsFrom]
   go_wp2_with (at_builtin; refine wpList_append_own _ rfl _ _ 22 rfl w.heap.size 9 i0 (.string ⟨#[]⟩) 1 16 Tryz.underlying22 hi hz0 hz1 hz2 rfl (by decide) _ _ _ rfl (HO.out.alloc _) ⟨wr.heap.size, 0, none⟩ 1 1 [.string (s.extract fr s.size)] rfl rfl (cell_one_new _ _ _) (strs_one _) (by have := Hal.out; unfold maxLen; omega) (by have := Hal.out; omega) (by have := Below.size HE.out; simp; omega) ?_; intro v' w1 hown' hgrow hnil)
   have hN := strs_step HO.out HE.out hown' hgrow
   rw [HX.out] at hN
   obtain ⟨g, cap, rfl, hg⟩ := owns_strs hN.1 (parts_ne s m)
   have Hg := hide hg
   have HN := hide hN.2
   clear hown' hgrow hnil hg hN
   go_wp2
   go_ret
   exact ⟨g, cap, rfl, Hg.out, HN.out⟩
set_option maxHeartbeats 1600000 in
set_option maxRecDepth 100000 in
theorem pieces_any (s : ByteArray) (hs : s.size ≤ 1048576) (w : World) :
  Calls Tryz.prog 129 #[.string s] w fun e w' => GivesL w (parts s 46) e w' := by
 obtain ⟨i0, hi, hz0, hz1, hz2⟩ := info_parts Tryz.infoS
 have hO0 := World.ownsRow_made (base := w.heap.size) (e := 9) (size := 1) w #[] 0 (Nat.le_refl _) (by simp) rfl
 have HO := hide (hO0.alloc (.stringIter s 0))
 have HI := hide (Itr.start (Ext.alloc w (.cells #[] 9)) s)
 clear hO0
 go_enter Tryz.func129, Tryz.ntmps129
 go_wp2
 go_loopw [3, 4] (fun v f wr => ∃ p fr : Nat, p ≤ s.size ∧ fr ≤ p ∧ f = .int .i64 fr ∧ Itr w wr (w.heap.size + 1) s p ∧ ∃ acc : List ByteArray, acc.length ≤ p ∧ wr.ownsRow w.heap.size 9 1 v acc.length (strs acc) ∧ acc ++ partsFrom s 46 (s.size - p) p fr = parts s 46) (fun _ _ wr => s.size - wr.iterPos (w.heap.size + 1))
 case atStart =>
  have hI := HI.out
  rw [show (w.alloc (.cells #[] 9)).heap.size = w.heap.size + 1 by simp] at hI
  exact ⟨0, 0, Nat.zero_le _, Nat.le_refl _, rfl, hI, [], Nat.le_refl _, HO.out, rfl⟩
 case round =>
  clear HO HI
  obtain ⟨p, fr, hp, hfp, rfl, hI, acc, hal, hO, hP⟩ := hrel
  have HP := hide hP
  have Hal := hide hal
  have Hfp := hide hfp
  clear hP hal hfp
  by_cases hlt : p < s.size
  ·obtain ⟨r, q, hR⟩ := rn_at s p hlt
   have hnx : ∀ ty, (Instr.next (.pointer (some ⟨w.heap.size + 1, 0, none⟩)) true ty).run Tryz.prog wr = _ := fun ty => hR.next hI.blk hlt ty
   have HM : Hid (wr.iterPos (w.heap.size + 1) = p) := hI.pos
   have HR := hide hR
   have h2 := hR.le
   have HI := hide (hI.step (p + q))
   have HO := hide (own_iterAt hO hI.blk (p + q))
   clear hI hR hO
   generalize wr.iterAt (w.heap.size + 1) s (p + q) = w2 at *
   by_cases he : r = 46
   ·subst he
    obtain ⟨hq, hb⟩ := HR.out.low (by omega)
    subst hq
    have hkn' : (p : Int) ≤ (s.size : Int) := by omega
    have hfk' : (fr : Int) ≤ (p : Int) := by have := Hfp.out; omega
    have HX : Hid ((acc ++ [s.extract fr p]) ++ partsFrom s 46 (s.size - (p + 1)) (p + 1) (p + 1) = parts s 46) := by
     show _ = _
     rw [← HP.out, show s.size - p = (s.size - (p + 1)) + 1 by omega, partsFrom, if_pos hb.symm]
     simp
    clear hb
    go_wp2_with (at_builtin; refine wpList_append_own _ rfl _ _ 22 rfl w.heap.size 9 i0 (.string ⟨#[]⟩) 1 16 Tryz.underlying22 hi hz0 hz1 hz2 rfl (by decide) _ _ _ rfl (HO.out.alloc _) ⟨w2.heap.size, 0, none⟩ 1 1 [.string (s.extract fr p)] rfl rfl (cell_one_new _ _ _) (strs_one _) (by have := Hal.out; unfold maxLen; omega) (by have := Hal.out; omega) (by have := Below.size HI.out.ext; simp; omega) ?_; intro v' w1 hown' hgrow hnil)
    have HN := hide (strs_step HO.out HI.out.ext hown' hgrow)
    have HI2 := hide (HI.out.grown HO.out (Nat.le_refl _) hgrow)
    clear hown' hgrow hnil
    go_wp2
    go_roundw
    case rel => exact ⟨p + 1, p + 1, by omega, Nat.le_refl _, by go_num, HI2.out, acc ++ [s.extract fr p], by have := Hal.out; simp; omega, HN.out.1, HX.out⟩
    case measure => rw [HM.out, HI2.out.pos]; omega
   ·have hne : ((r : Int) == 46) = false := by simp; omega
    have HX : Hid (acc ++ partsFrom s 46 (s.size - (p + q)) (p + q) fr = parts s 46) := by
     show _ = _
     have h3 := HR.out.fits
     rw [← HP.out, show s.size - p = (s.size - (p + q)) + q by omega, partsFrom_skip]
     intro j h4 h5
     by_cases h6 : r < 128
     ·obtain ⟨rfl, h7⟩ := HR.out.low h6
      obtain rfl : j = p := by omega
      omega
     ·have := HR.out.high (by omega) j h4 h5
      omega
    go_wp2
    go_roundw
    case rel => exact ⟨p + q, fr, HR.out.fits, by have := Hfp.out; omega, rfl, HI.out, acc, by have := Hal.out; omega, HO.out, HX.out⟩
    case measure => rw [HM.out, HI.out.pos]; have := HR.out.pos; omega
  ·obtain rfl : p = s.size := by omega
   have hnx : ∀ ty, (Instr.next (.pointer (some ⟨w.heap.size + 1, 0, none⟩)) true ty).run Tryz.prog wr = _ := fun ty => Lib.run_next_end_at wr (w.heap.size + 1) s s.size ty hI.blk hlt
   have hfk' : (fr : Int) ≤ (s.size : Int) := by have := Hfp.out; omega
   have HE := hide hI.ext
   have HO := hide hO
   clear hI hO
   have HX : Hid (acc ++ [s.extract fr s.size] = parts s 46) := by
    show _ = _
    rw [← HP.out, Nat.sub_self, partsFrom]
   go_wp2_with (at_builtin; refine wpList_append_own _ rfl _ _ 22 rfl w.heap.size 9 i0 (.string ⟨#[]⟩) 1 16 Tryz.underlying22 hi hz0 hz1 hz2 rfl (by decide) _ _ _ rfl (HO.out.alloc _) ⟨wr.heap.size, 0, none⟩ 1 1 [.string (s.extract fr s.size)] rfl rfl (cell_one_new _ _ _) (strs_one _) (by have := Hal.out; unfold maxLen; omega) (by have := Hal.out; omega) (by have := Below.size HE.out; simp; omega) ?_; intro v' w1 hown' hgrow hnil)
   have hN := strs_step HO.out HE.out hown' hgrow
   rw [HX.out] at hN
   obtain ⟨g, cap, rfl, hg⟩ := owns_strs hN.1 (parts_ne s 46)
   have Hg := hide hg
   have HN := hide hN.2
   clear hown' hgrow hnil hg hN
   go_wp2
   go_ret
   exact ⟨g, cap, rfl, Hg.out, HN.out⟩
def allN (P : Nat → Bool) (s : ByteArray) : Nat → Bool
 | 0 => true
 | n + 1 => allN P s n && P (bt s n)
theorem allN_iff (P : Nat → Bool) (s : ByteArray) (n : Nat) : allN P s n = true ↔ ∀ i, i < n → P (bt s i) = true := by
 induction n with
 | zero => simp [allN]
 | succ n ih =>
  rw [allN, Bool.and_eq_true, ih]
  constructor
  ·rintro ⟨h, h0⟩ i hi
   by_cases e : i = n
   ·subst e; exact h0
   ·exact h i (by omega)
  ·intro h
   exact ⟨fun i hi => h i (by omega), h n (by omega)⟩
theorem allN_false {P : Nat → Bool} {s : ByteArray} {n k : Nat} (hk : k < n) (h : P (bt s k) = false) : allN P s n = false := by
 cases e : allN P s n with
 | false => rfl
 | true => rw [(allN_iff P s n).1 e k hk] at h; cases h
def smB (c : Nat) : Bool := decide (97 ≤ c) && decide (c ≤ 122)
def dgB (c : Nat) : Bool := decide (48 ≤ c) && decide (c ≤ 57)
def chB (c : Nat) : Bool := smB c || dgB c || c == 45
def labB (s : ByteArray) : Bool := allN chB s s.size && (decide (1 ≤ s.size) && decide (s.size ≤ 20) && (bt s 0 != 45) && (bt s (s.size - 1) != 45))
def digB (s : ByteArray) : Bool := allN dgB s s.size
def hostL (L : List ByteArray) : Bool := L.all labB && (decide (L.length ≤ 8) && !digB (nth L (L.length - 1)))
def hostB (s : ByteArray) : Bool := decide (s.size ≤ 80) && hostL (parts s 46)
theorem smB_i (c : Nat) : (decide (97 ≤ (c : Int)) && decide ((c : Int) ≤ 122)) = smB c := by
 unfold smB
 congr 1 <;> · apply decide_eq_decide.2; omega
theorem dgB_i (c : Nat) : (decide (48 ≤ (c : Int)) && decide ((c : Int) ≤ 57)) = dgB c := by
 unfold dgB
 congr 1 <;> · apply decide_eq_decide.2; omega
theorem isSmall_any (r : Nat) (w : World) :
  Calls Tryz.prog 155 #[.int .i32 (r : Int)] w fun e w' => e = .returned (.bool (smB r)) ∧ w' = w := by
 have H := hide (smB_i r)
 by_cases h1 : (97 : Int) ≤ r
 ·by_cases h2 : (r : Int) ≤ 122
  ·go_enter Tryz.func155, Tryz.ntmps155
   go_wp2
   go_ret
   exact ⟨ret_bool (by rw [← H.out]; simp [h1, h2]), rfl⟩
  ·go_enter Tryz.func155, Tryz.ntmps155
   go_wp2
   go_ret
   exact ⟨ret_bool (by rw [← H.out]; simp [h1, h2]), rfl⟩
 ·go_enter Tryz.func155, Tryz.ntmps155
  go_wp2
  go_ret
  exact ⟨ret_bool (by rw [← H.out]; simp; omega), rfl⟩
theorem isDecimal_any (r : Nat) (w : World) :
  Calls Tryz.prog 156 #[.int .i32 (r : Int)] w fun e w' => e = .returned (.bool (dgB r)) ∧ w' = w := by
 have H := hide (dgB_i r)
 by_cases h1 : (48 : Int) ≤ r
 ·by_cases h2 : (r : Int) ≤ 57
  ·go_enter Tryz.func156, Tryz.ntmps156
   go_wp2
   go_ret
   exact ⟨ret_bool (by rw [← H.out]; simp [h1, h2]), rfl⟩
  ·go_enter Tryz.func156, Tryz.ntmps156
   go_wp2
   go_ret
   exact ⟨ret_bool (by rw [← H.out]; simp [h1, h2]), rfl⟩
 ·go_enter Tryz.func156, Tryz.ntmps156
  go_wp2
  go_ret
  exact ⟨ret_bool (by rw [← H.out]; simp; omega), rfl⟩
theorem labB_no {s : ByteArray} {k : Nat} (hk : k < s.size) (h : chB (bt s k) = false) : labB s = false := by
 unfold labB
 rw [allN_false hk h, Bool.false_and]
theorem labB_end {s : ByteArray} (h : ∀ i, i < s.size → chB (bt s i) = true) : labB s = (decide (1 ≤ s.size) && decide (s.size ≤ 20) && (bt s 0 != 45) && (bt s (s.size - 1) != 45)) := by
 unfold labB
 rw [(allN_iff chB s s.size).2 h, Bool.true_and]
set_option maxHeartbeats 1600000 in
set_option maxRecDepth 100000 in
theorem l8Label_any (s : ByteArray) (hs : s.size ≤ 1048576) (w : World) :
  Calls Tryz.prog 148 #[.string s] w fun e w' => e = .returned (.bool (labB s)) ∧ w' = w := by
 go_enter Tryz.func148, Tryz.ntmps148
 go_wp2
 go_loop [3] (fun i => ∃ k : Nat, k ≤ s.size ∧ i = .int .i64 k ∧ ∀ j, j < k → chB (bt s j) = true) (fun i => s.size - (intOf i).toNat)
 case atStart => exact ⟨0, Nat.zero_le _, rfl, fun j hj => absurd hj (Nat.not_lt_zero _)⟩
 case round =>
  obtain ⟨k, hk, rfl, hd⟩ := hrel
  have HD := hide hd
  clear hd
  by_cases hlt : k < s.size
  ·have hb := bt_get s k hlt
   have hkn : (k : Int) < (s.size : Int) := by omega
   have h2 := bt_lt s k
   have HC : Hid (∀ b, chB (bt s k) = b → (b = true → ∀ j, j < k + 1 → chB (bt s j) = true) ∧ (b = false → labB s = false)) := by
    intro b hb
    refine ⟨fun h j hj => ?_, fun h => labB_no hlt (hb.trans h)⟩
    by_cases e : j = k
    ·subst e; exact hb.trans h
    ·exact HD.out j (by omega)
   clear HD
   generalize bt s k = c at *
   have H1 := hide (smB_i c)
   have H2 := hide (dgB_i c)
   cases e1 : smB c
   ·have hb1 : (decide (97 ≤ (c : Int)) && decide ((c : Int) ≤ 122)) = false := H1.out.trans e1
    cases e2 : dgB c
    ·have hb2 : (decide (48 ≤ (c : Int)) && decide ((c : Int) ≤ 57)) = false := H2.out.trans e2
     by_cases e3 : c = 45
     ·have HK := hide ((HC.out true (by simp [chB, e3])).1 rfl)
      subst e3
      clear HC H1 H2 e1 e2
      go_wp2_with (go_at_call 23; refine (l1In_any _ _ _ _).mono ?_; rintro e w' ⟨rfl, rfl⟩)
      go_round
      case rel => exact ⟨k + 1, by omega, by go_num, HK.out⟩
      case measure => simp [intOf]; omega
     ·have HK := hide ((HC.out false (by simp [chB, e1, e2, e3])).2 rfl)
      have hne : ((c : Int) != 45) = true := by simp; omega
      clear HC H1 H2 e1 e2
      go_wp2_with (go_at_call 23; refine (l1In_any _ _ _ _).mono ?_; rintro e w' ⟨rfl, rfl⟩)
      go_ret
      exact ⟨ret_bool HK.out.symm, rfl⟩
    ·have hb2 : (decide (48 ≤ (c : Int)) && decide ((c : Int) ≤ 57)) = true := H2.out.trans e2
     have HK := hide ((HC.out true (by simp [chB, e2])).1 rfl)
     clear HC H1 H2 e1 e2
     go_wp2_with (go_at_call 23; refine (l1In_any _ _ _ _).mono ?_; rintro e w' ⟨rfl, rfl⟩)
     go_round
     case rel => exact ⟨k + 1, by omega, by go_num, HK.out⟩
     case measure => simp [intOf]; omega
   ·have hb1 : (decide (97 ≤ (c : Int)) && decide ((c : Int) ≤ 122)) = true := H1.out.trans e1
    have HK := hide ((HC.out true (by simp [chB, e1])).1 rfl)
    clear HC H1 H2 e1
    go_wp2_with (go_at_call 23; refine (l1In_any _ _ _ _).mono ?_; rintro e w' ⟨rfl, rfl⟩)
    go_round
    case rel => exact ⟨k + 1, by omega, by go_num, HK.out⟩
    case measure => simp [intOf]; omega
  ·obtain rfl : k = s.size := by omega
   have HF := hide (labB_end HD.out)
   clear HD
   by_cases h1 : 1 ≤ s.size
   ·by_cases h20 : s.size ≤ 20
    ·have hin : (decide ((1 : Int) ≤ (s.size : Int)) && decide ((s.size : Int) ≤ 20)) = true := by simp; omega
     have hb0 := bt_get s 0 (by omega)
     have hbn := bt_get s (s.size - 1) (by omega)
     have hp : (0 : Int) < (s.size : Int) := by omega
     have hq : (0 : Int) ≤ (s.size : Int) - 1 := by omega
     have hq1 : (s.size : Int) - 1 < (s.size : Int) := by omega
     have hq2 : ((s.size : Int) - 1).toNat = s.size - 1 := by omega
     have hF := HF.out
     simp only [h1, h20, decide_true, Bool.true_and] at hF
     have HF2 := hide hF
     clear HF hF
     generalize bt s 0 = c0 at *
     generalize bt s (s.size - 1) = c1 at *
     by_cases e0 : c0 = 45
     ·subst e0
      go_wp2_with (go_at_call 23; refine (l1In_any _ _ _ _).mono ?_; rintro e w' ⟨rfl, rfl⟩)
      go_ret
      exact ⟨ret_bool (by rw [HF2.out]; rfl), rfl⟩
     ·have hne0 : ((c0 : Int) != 45) = true := by simp; omega
      have Hz : Hid ((c0 != 45) = true) := by show _ = true; simp [e0]
      go_wp2_with (go_at_call 23; refine (l1In_any _ _ _ _).mono ?_; rintro e w' ⟨rfl, rfl⟩)
      go_ret
      refine ⟨ret_bool ?_, rfl⟩
      rw [HF2.out, Hz.out, Bool.true_and]
      by_cases e : c1 = 45
      ·subst e; rfl
      ·have : ((c1 : Int) != 45) = true := by simp; omega
       rw [this]; simp [e]
    ·have hin : (decide ((1 : Int) ≤ (s.size : Int)) && decide ((s.size : Int) ≤ 20)) = false := by simp; omega
     go_wp2_with (go_at_call 23; refine (l1In_any _ _ _ _).mono ?_; rintro e w' ⟨rfl, rfl⟩)
     go_ret
     exact ⟨ret_bool (by rw [HF.out]; simp [h20]), rfl⟩
   ·have hin : (decide ((1 : Int) ≤ (s.size : Int)) && decide ((s.size : Int) ≤ 20)) = false := by simp; omega
    go_wp2_with (go_at_call 23; refine (l1In_any _ _ _ _).mono ?_; rintro e w' ⟨rfl, rfl⟩)
    go_ret
    exact ⟨ret_bool (by rw [HF.out]; simp [h1]), rfl⟩
set_option maxHeartbeats 1600000 in
set_option maxRecDepth 100000 in
theorem labelOk_any (s : ByteArray) (hs : s.size ≤ 1048576) (w : World) :
  Calls Tryz.prog 132 #[.string s] w fun e w' => e = .returned (.bool (labB s)) ∧ Ext w w' := by
 by_cases h1 : 1 ≤ s.size
 ·have g1 : ¬ (s.size : Int) < 1 := by omega
  by_cases h20 : s.size ≤ 20
  ·have g2 : ¬ (20 : Int) < (s.size : Int) := by omega
   have hb0 := bt_get s 0 (by omega)
   have hbn := bt_get s (s.size - 1) (by omega)
   have hp : (0 : Int) < (s.size : Int) := by omega
   have hq : (0 : Int) ≤ (s.size : Int) - 1 := by omega
   have hq1 : (s.size : Int) - 1 < (s.size : Int) := by omega
   have hq2 : ((s.size : Int) - 1).toNat = s.size - 1 := by omega
   have HF : Hid (labB s = (allN chB s s.size && ((bt s 0 != 45) && (bt s (s.size - 1) != 45)))) := by
    show _ = _
    unfold labB
    simp only [h1, h20, decide_true, Bool.true_and]
   generalize bt s 0 = c0 at *
   generalize bt s (s.size - 1) = c1 at *
   by_cases e0 : c0 = 45
   ·subst e0
    go_enter Tryz.func132, Tryz.ntmps132
    go_wp2
    go_ret
    exact ⟨ret_bool (by rw [HF.out]; simp), Ext.refl _⟩
   ·have hne0 : ((c0 : Int) == 45) = false := by simp; omega
    by_cases e1 : c1 = 45
    ·subst e1
     go_enter Tryz.func132, Tryz.ntmps132
     go_wp2
     go_ret
     exact ⟨ret_bool (by rw [HF.out]; simp), Ext.refl _⟩
    ·have hne1 : ((c1 : Int) == 45) = false := by simp; omega
     have HG : Hid (labB s = allN chB s s.size) := by show _ = _; rw [HF.out]; simp [e0, e1]
     clear HF
     have HI := hide (Itr.start (Ext.refl w) s)
     go_enter Tryz.func132, Tryz.ntmps132
     go_wp2
     clear hb0 hbn hp hq hq1 hq2 hne0 hne1 g1 g2
     go_loopw [] (fun wr => ∃ p : Nat, p ≤ s.size ∧ Itr w wr w.heap.size s p ∧ ∀ j, j < p → chB (bt s j) = true) (fun wr => s.size - wr.iterPos w.heap.size)
     case atStart => exact ⟨0, Nat.zero_le _, HI.out, fun j hj => absurd hj (Nat.not_lt_zero _)⟩
     case round =>
      clear HI
      obtain ⟨p, hp, hI, hd⟩ := hrel
      have HD := hide hd
      clear hd
      by_cases hlt : p < s.size
      ·obtain ⟨r, q, hR⟩ := rn_at s p hlt
       have hnx : ∀ ty, (Instr.next (.pointer (some ⟨w.heap.size, 0, none⟩)) true ty).run Tryz.prog wr = _ := fun ty => hR.next hI.blk hlt ty
       have HM : Hid (wr.iterPos w.heap.size = p) := hI.pos
       have HR := hide hR
       have h2 := hR.le
       have HI := hide (hI.step (p + q))
       clear hI hR
       generalize wr.iterAt w.heap.size s (p + q) = w2 at *
       have HC : Hid (∀ b, chB r = b → (b = true → ∀ j, j < p + q → chB (bt s j) = true) ∧ (b = false → labB s = false)) := by
        intro b hb
        by_cases h6 : r < 128
        ·obtain ⟨rfl, h7⟩ := HR.out.low h6
         refine ⟨fun h j hj => ?_, fun h => labB_no hlt (by rw [← h7]; exact hb.trans h)⟩
         by_cases e : j = p
         ·subst e; rw [← h7]; exact hb.trans h
         ·exact HD.out j (by omega)
        ·refine ⟨fun h => ?_, fun h => labB_no hlt ?_⟩
         ·exfalso
          subst h
          simp only [chB, smB, dgB, Bool.or_eq_true, Bool.and_eq_true, decide_eq_true_eq, beq_iff_eq] at hb
          omega
         ·have h8 := HR.out.high (by omega) p (Nat.le_refl _) (by have := HR.out.pos; omega)
          generalize bt s p = x at *
          simp only [chB, smB, dgB, Bool.or_eq_false_iff, Bool.and_eq_false_iff, decide_eq_false_iff_not, beq_eq_false_iff_ne]
          omega
       clear HD
       cases e1 : smB r
       ·cases e2 : dgB r
        ·by_cases e3 : r = 45
         ·have HK := hide ((HC.out true (by simp [chB, e3])).1 rfl)
          have e4 : ((r : Int) != 45) = false := by subst e3; rfl
          clear HC
          go_wp2_with (first | (go_at_call 155; refine (isSmall_any _ _).mono ?_; rintro e w' ⟨rfl, rfl⟩) | (go_at_call 156; refine (isDecimal_any _ _).mono ?_; rintro e w' ⟨rfl, rfl⟩))
          go_roundw
          case rel => exact ⟨p + q, HR.out.fits, HI.out, HK.out⟩
          case measure => rw [HM.out, HI.out.pos]; have := HR.out.pos; omega
         ·have HK := hide ((HC.out false (by simp [chB, e1, e2, e3])).2 rfl)
          have hne : ((r : Int) != 45) = true := by simp; omega
          clear HC
          go_wp2_with (first | (go_at_call 155; refine (isSmall_any _ _).mono ?_; rintro e w' ⟨rfl, rfl⟩) | (go_at_call 156; refine (isDecimal_any _ _).mono ?_; rintro e w' ⟨rfl, rfl⟩))
          go_ret
          exact ⟨ret_bool HK.out.symm, HI.out.ext⟩
        ·have HK := hide ((HC.out true (by simp [chB, e2])).1 rfl)
         clear HC
         go_wp2_with (first | (go_at_call 155; refine (isSmall_any _ _).mono ?_; rintro e w' ⟨rfl, rfl⟩) | (go_at_call 156; refine (isDecimal_any _ _).mono ?_; rintro e w' ⟨rfl, rfl⟩))
         go_roundw
         case rel => exact ⟨p + q, HR.out.fits, HI.out, HK.out⟩
         case measure => rw [HM.out, HI.out.pos]; have := HR.out.pos; omega
       ·have HK := hide ((HC.out true (by simp [chB, e1])).1 rfl)
        clear HC
        go_wp2_with (first | (go_at_call 155; refine (isSmall_any _ _).mono ?_; rintro e w' ⟨rfl, rfl⟩) | (go_at_call 156; refine (isDecimal_any _ _).mono ?_; rintro e w' ⟨rfl, rfl⟩))
        go_roundw
        case rel => exact ⟨p + q, HR.out.fits, HI.out, HK.out⟩
        case measure => rw [HM.out, HI.out.pos]; have := HR.out.pos; omega
      ·obtain rfl : p = s.size := by omega
       have hnx : ∀ ty, (Instr.next (.pointer (some ⟨w.heap.size, 0, none⟩)) true ty).run Tryz.prog wr = _ := fun ty => Lib.run_next_end_at wr w.heap.size s s.size ty hI.blk hlt
       have HE := hide hI.ext
       have HK : Hid (labB s = true) := HG.out.trans ((allN_iff _ _ _).2 HD.out)
       clear hI HD HG
       go_wp2
       go_ret
       exact ⟨ret_bool HK.out.symm, HE.out⟩
  ·have g2 : (20 : Int) < (s.size : Int) := by omega
   go_enter Tryz.func132, Tryz.ntmps132
   go_wp2
   go_ret
   exact ⟨ret_bool (by simp [labB, h20]), Ext.refl _⟩
 ·have g1 : (s.size : Int) < 1 := by omega
  go_enter Tryz.func132, Tryz.ntmps132
  go_wp2
  go_ret
  exact ⟨ret_bool (by simp [labB, h1]), Ext.refl _⟩
theorem digB_no {s : ByteArray} {k : Nat} (hk : k < s.size) (h : dgB (bt s k) = false) : digB s = false := allN_false hk h
set_option maxHeartbeats 800000 in
set_option maxRecDepth 100000 in
theorem l8Digits_any (s : ByteArray) (hs : s.size ≤ 1048576) (w : World) :
  Calls Tryz.prog 149 #[.string s] w fun e w' => e = .returned (.bool (digB s && decide (0 < s.size))) ∧ w' = w := by
 go_enter Tryz.func149, Tryz.ntmps149
 go_wp2
 go_loop [3] (fun i => ∃ k : Nat, k ≤ s.size ∧ i = .int .i64 k ∧ ∀ j, j < k → dgB (bt s j) = true) (fun i => s.size - (intOf i).toNat)
 case atStart => exact ⟨0, Nat.zero_le _, rfl, fun j hj => absurd hj (Nat.not_lt_zero _)⟩
 case round =>
  obtain ⟨k, hk, rfl, hd⟩ := hrel
  have HD := hide hd
  clear hd
  by_cases hlt : k < s.size
  ·have hb := bt_get s k hlt
   have hkn : (k : Int) < (s.size : Int) := by omega
   have h2 := bt_lt s k
   have HC : Hid (∀ b, dgB (bt s k) = b → (b = true → ∀ j, j < k + 1 → dgB (bt s j) = true) ∧ (b = false → digB s = false)) := by
    intro b hb
    refine ⟨fun h j hj => ?_, fun h => digB_no hlt (hb.trans h)⟩
    by_cases e : j = k
    ·subst e; exact hb.trans h
    ·exact HD.out j (by omega)
   clear HD
   generalize bt s k = c at *
   have H2 := hide (dgB_i c)
   cases e2 : dgB c
   ·have hb2 : (decide (48 ≤ (c : Int)) && decide ((c : Int) ≤ 57)) = false := H2.out.trans e2
    have HK := hide ((HC.out false e2).2 rfl)
    clear HC H2 e2
    go_wp2_with (go_at_call 23; refine (l1In_any _ _ _ _).mono ?_; rintro e w' ⟨rfl, rfl⟩)
    go_ret
    exact ⟨ret_bool (by rw [HK.out]; rfl), rfl⟩
   ·have hb2 : (decide (48 ≤ (c : Int)) && decide ((c : Int) ≤ 57)) = true := H2.out.trans e2
    have HK := hide ((HC.out true e2).1 rfl)
    clear HC H2 e2
    go_wp2_with (go_at_call 23; refine (l1In_any _ _ _ _).mono ?_; rintro e w' ⟨rfl, rfl⟩)
    go_round
    case rel => exact ⟨k + 1, by omega, by go_num, HK.out⟩
    case measure => simp [intOf]; omega
  ·obtain rfl : k = s.size := by omega
   have HF : Hid (digB s = true) := (allN_iff _ _ _).2 HD.out
   clear HD
   go_wp2
   go_ret
   refine ⟨ret_bool ?_, rfl⟩
   rw [HF.out, Bool.true_and]
   first | done | (apply decide_eq_decide.2; omega)
set_option maxHeartbeats 800000 in
set_option maxRecDepth 100000 in
theorem allDecimal_any (s : ByteArray) (hs : s.size ≤ 1048576) (w : World) :
  Calls Tryz.prog 133 #[.string s] w fun e w' => e = .returned (.bool (digB s)) ∧ Ext w w' := by
 have HI := hide (Itr.start (Ext.refl w) s)
 go_enter Tryz.func133, Tryz.ntmps133
 go_wp2
 go_loopw [] (fun wr => ∃ p : Nat, p ≤ s.size ∧ Itr w wr w.heap.size s p ∧ ∀ j, j < p → dgB (bt s j) = true) (fun wr => s.size - wr.iterPos w.heap.size)
 case atStart => exact ⟨0, Nat.zero_le _, HI.out, fun j hj => absurd hj (Nat.not_lt_zero _)⟩
 case round =>
  clear HI
  obtain ⟨p, hp, hI, hd⟩ := hrel
  have HD := hide hd
  clear hd
  by_cases hlt : p < s.size
  ·obtain ⟨r, q, hR⟩ := rn_at s p hlt
   have hnx : ∀ ty, (Instr.next (.pointer (some ⟨w.heap.size, 0, none⟩)) true ty).run Tryz.prog wr = _ := fun ty => hR.next hI.blk hlt ty
   have HM : Hid (wr.iterPos w.heap.size = p) := hI.pos
   have HR := hide hR
   have h2 := hR.le
   have HI := hide (hI.step (p + q))
   clear hI hR
   generalize wr.iterAt w.heap.size s (p + q) = w2 at *
   have HC : Hid (∀ b, dgB r = b → (b = true → ∀ j, j < p + q → dgB (bt s j) = true) ∧ (b = false → digB s = false)) := by
    intro b hb
    by_cases h6 : r < 128
    ·obtain ⟨rfl, h7⟩ := HR.out.low h6
     refine ⟨fun h j hj => ?_, fun h => digB_no hlt (by rw [← h7]; exact hb.trans h)⟩
     by_cases e : j = p
     ·subst e; rw [← h7]; exact hb.trans h
     ·exact HD.out j (by omega)
    ·refine ⟨fun h => ?_, fun h => digB_no hlt ?_⟩
     ·exfalso
      subst h
      simp only [dgB, Bool.or_eq_true, Bool.and_eq_true, decide_eq_true_eq, beq_iff_eq] at hb
      omega
     ·have h8 := HR.out.high (by omega) p (Nat.le_refl _) (by have := HR.out.pos; omega)
      generalize bt s p = x at *
      simp only [dgB, Bool.and_eq_false_iff, decide_eq_false_iff_not]
      omega
   clear HD
   cases e2 : dgB r
   ·have HK := hide ((HC.out false e2).2 rfl)
    clear HC
    go_wp2_with (go_at_call 156; refine (isDecimal_any _ _).mono ?_; rintro e w' ⟨rfl, rfl⟩)
    go_ret
    exact ⟨ret_bool HK.out.symm, HI.out.ext⟩
   ·have HK := hide ((HC.out true e2).1 rfl)
    clear HC
    go_wp2_with (go_at_call 156; refine (isDecimal_any _ _).mono ?_; rintro e w' ⟨rfl, rfl⟩)
    go_roundw
    case rel => exact ⟨p + q, HR.out.fits, HI.out, HK.out⟩
    case measure => rw [HM.out, HI.out.pos]; have := HR.out.pos; omega
  ·obtain rfl : p = s.size := by omega
   have hnx : ∀ ty, (Instr.next (.pointer (some ⟨w.heap.size, 0, none⟩)) true ty).run Tryz.prog wr = _ := fun ty => Lib.run_next_end_at wr w.heap.size s s.size ty hI.blk hlt
   have HE := hide hI.ext
   have HK : Hid (digB s = true) := (allN_iff _ _ _).2 HD.out
   clear hI HD
   go_wp2
   go_ret
   exact ⟨ret_bool HK.out.symm, HE.out⟩
theorem partsFrom_size (s : ByteArray) (m : Nat) : ∀ n k fr, k + n = s.size → fr ≤ k → ∀ x ∈ partsFrom s m n k fr, x.size ≤ s.size
 | 0, k, fr, hk, hf, x, hx => by
  simp only [partsFrom, List.mem_singleton] at hx
  subst hx
  simp
 | n + 1, k, fr, hk, hf, x, hx => by
  unfold partsFrom at hx
  split at hx
  ·rcases List.mem_cons.1 hx with rfl | hx
   ·simp; omega
   ·exact partsFrom_size s m n _ _ (by omega) (Nat.le_refl _) x hx
  ·exact partsFrom_size s m n _ _ (by omega) (by omega) x hx
theorem nth_mem {L : List ByteArray} {i : Nat} (h : i < L.length) : nth L i ∈ L := by
 unfold nth
 rw [List.getD_eq_getElem?_getD, List.getElem?_eq_getElem h]
 exact List.getElem_mem _
theorem nth_size {s : ByteArray} {m i : Nat} (h : i < (parts s m).length) : (nth (parts s m) i).size ≤ s.size :=
 partsFrom_size s m _ _ _ (by omega) (Nat.le_refl _) _ (nth_mem h)
theorem all_nth {L : List ByteArray} : L.all labB = true ↔ ∀ i, i < L.length → labB (nth L i) = true := by
 rw [List.all_eq_true]
 constructor
 ·exact fun h i hi => h _ (nth_mem hi)
 ·intro h x hx
  obtain ⟨i, hi, rfl⟩ := List.getElem_of_mem hx
  have := h i hi
  unfold nth at this
  rwa [List.getD_eq_getElem?_getD, List.getElem?_eq_getElem hi] at this
theorem hostL_no {L : List ByteArray} {i : Nat} (hi : i < L.length) (h : labB (nth L i) = false) : hostL L = false := by
 unfold hostL
 cases e : L.all labB
 ·rfl
 ·rw [all_nth.1 e i hi] at h; cases h
theorem hostL_end {L : List ByteArray} (h : ∀ i, i < L.length → labB (nth L i) = true) : hostL L = (decide (L.length ≤ 8) && !digB (nth L (L.length - 1))) := by
 unfold hostL
 rw [all_nth.2 h, Bool.true_and]
theorem labB_pos {s : ByteArray} (h : labB s = true) : 0 < s.size := by
 unfold labB at h
 simp only [Bool.and_eq_true, decide_eq_true_eq] at h
 omega
set_option maxHeartbeats 1600000 in
set_option maxRecDepth 100000 in
theorem specHostOk_any (s : ByteArray) (hs : s.size ≤ 2097152) (w : World) :
  Calls Tryz.prog 123 #[.string s] w fun e w' => e = .returned (.bool (hostB s)) ∧ Ext w w' := by
 by_cases h80 : s.size ≤ 80
 ·have g1 : ¬ (80 : Int) < (s.size : Int) := by omega
  have HH : Hid (hostB s = hostL (parts s 46)) := by show _ = _; unfold hostB; simp [h80]
  go_enter Tryz.func123, Tryz.ntmps123
  go_wp2_with fail
  refine (l8Parts_any s 46 (by omega) (by omega) w).mono ?_
  rintro e w1 ⟨g, cap, rfl, hC, hE⟩
  have HN := hide (parts_ne s 46)
  have HM := hide (parts_le s 46)
  have HZ : Hid (∀ i, i < (parts s 46).length → (nth (parts s 46) i).size ≤ s.size) := fun i => nth_size
  have HC := hide hC
  have HE := hide hE
  clear hC hE
  generalize parts s 46 = L at *
  have hLm : L.length ≤ 81 := by have := HM.out; omega
  go_wp2
  go_loop [4] (fun i => ∃ k : Nat, k ≤ L.length ∧ i = .int .i64 k ∧ ∀ j, j < k → labB (nth L j) = true) (fun i => L.length - (intOf i).toNat)
  case atStart => exact ⟨0, Nat.zero_le _, rfl, fun j hj => absurd hj (Nat.not_lt_zero _)⟩
  case round =>
   obtain ⟨k, hk, rfl, hd⟩ := hrel
   have HD := hide hd
   clear hd
   by_cases hlt : k < L.length
   ·have hkn : (k : Int) < (L.length : Int) := by omega
    have hc := HC.out k hlt
    have HS := hide (HZ.out k hlt)
    have HQ : Hid (∀ b, labB (nth L k) = b → (b = true → ∀ j, j < k + 1 → labB (nth L j) = true) ∧ (b = false → hostL L = false)) := by
     intro b hb
     refine ⟨fun h j hj => ?_, fun h => hostL_no hlt (hb.trans h)⟩
     by_cases e : j = k
     ·subst e; exact hb.trans h
     ·exact HD.out j (by omega)
    clear HD
    generalize nth L k = x at *
    have HL := hide (l8Label_any x (by have := HS.out; omega) w1)
    cases e1 : labB x
    ·have HK := hide ((HQ.out false e1).2 rfl)
     rw [e1] at HL
     clear HQ
     go_wp2_with (go_at_call 148; refine HL.out.mono ?_; rintro e w' ⟨rfl, rfl⟩)
     go_ret
     exact ⟨ret_bool (by rw [HH.out, HK.out]), HE.out⟩
    ·have HK := hide ((HQ.out true e1).1 rfl)
     rw [e1] at HL
     clear HQ
     go_wp2_with (go_at_call 148; refine HL.out.mono ?_; rintro e w' ⟨rfl, rfl⟩)
     go_round
     case rel => exact ⟨k + 1, by omega, by go_num, HK.out⟩
     case measure => simp [intOf]; omega
   ·obtain rfl : k = L.length := by omega
    have HF := hide (hostL_end HD.out)
    have h1 := HN.out
    by_cases h8 : L.length ≤ 8
    ·have g8 : (L.length : Int) ≤ 8 := by omega
     have hc := HC.out (L.length - 1) (by omega)
     have hq : (0 : Int) ≤ (L.length : Int) - 1 := by omega
     have hq1 : (L.length : Int) - 1 < (L.length : Int) := by omega
     have hq2 : ((L.length : Int) - 1).toNat = L.length - 1 := by omega
     have HL := hide (l8Digits_any (nth L (L.length - 1)) (by have := HZ.out (L.length - 1) (by omega); omega) w1)
     have HP : Hid (decide (0 < (nth L (L.length - 1)).size) = true) := decide_eq_true (labB_pos (HD.out (L.length - 1) (by omega)))
     rw [HP.out, Bool.and_true] at HL
     clear HD HP HC
     generalize nth L (L.length - 1) = x at *
     generalize digB x = b at *
     have hq3 : wrap64 ((L.length : Int) - 1) = (L.length : Int) - 1 := by unfold wrap64; omega
     go_wp2_with (go_at_call 149; refine HL.out.mono ?_; rintro e w' ⟨rfl, rfl⟩)
     go_ret
     exact ⟨ret_bool (by rw [HH.out, HF.out]; simp [h8]), HE.out⟩
    ·have g8 : ¬ (L.length : Int) ≤ 8 := by omega
     go_wp2
     go_ret
     exact ⟨ret_bool (by rw [HH.out, HF.out]; simp [h8]), HE.out⟩
 ·have g1 : (80 : Int) < (s.size : Int) := by omega
  go_enter Tryz.func123, Tryz.ntmps123
  go_wp2
  go_ret
  exact ⟨ret_bool (by simp [hostB, h80]), Ext.refl _⟩
set_option maxHeartbeats 1600000 in
set_option maxRecDepth 100000 in
theorem implHostOk_any (s : ByteArray) (hs : s.size ≤ 2097152) (w : World) :
  Calls Tryz.prog 109 #[.string s] w fun e w' => e = .returned (.bool (hostB s)) ∧ Ext w w' := by
 by_cases h80 : s.size ≤ 80
 ·have g1 : ¬ (80 : Int) < (s.size : Int) := by omega
  have HH : Hid (hostB s = hostL (parts s 46)) := by show _ = _; unfold hostB; simp [h80]
  go_enter Tryz.func109, Tryz.ntmps109
  go_wp2_with fail
  refine (pieces_any s (by omega) w).mono ?_
  rintro e w1 ⟨g, cap, rfl, hC, hE⟩
  have HN := hide (parts_ne s 46)
  have HM := hide (parts_le s 46)
  have HZ : Hid (∀ i, i < (parts s 46).length → (nth (parts s 46) i).size ≤ s.size) := fun i => nth_size
  have HC := hide hC
  have HE := hide hE
  have HG : Hid (g < w1.heap.size) := World.block_lt_of_cell? _ _ (HC.out 0 (by have := HN.out; omega))
  clear hC hE
  generalize parts s 46 = L at *
  have hLm : L.length ≤ 81 := by have := HM.out; omega
  by_cases h8 : L.length ≤ 8
  ·have g8 : ¬ (8 : Int) < (L.length : Int) := by omega
   go_wp2
   go_loopw [16] (fun i wr => ∃ k : Nat, k ≤ L.length ∧ i = .int .i64 k ∧ (∀ j, j < k → labB (nth L j) = true) ∧ Ext w1 wr) (fun i _ => L.length - (intOf i).toNat)
   case atStart => exact ⟨0, Nat.zero_le _, rfl, fun j hj => absurd hj (Nat.not_lt_zero _), Ext.refl _⟩
   case round =>
    obtain ⟨k, hk, rfl, hd, hx⟩ := hrel
    have HD := hide hd
    have HX := hide hx
    clear hd hx
    by_cases hlt : k < L.length
    ·have hkn : (k : Int) < (L.length : Int) := by omega
     have hc : wr.cell? ⟨g, k, none⟩ = some (.string (nth L k)) := (Below.cell HX.out (p := ⟨g, k, none⟩) HG.out).trans (HC.out k hlt)
     have HS := hide (HZ.out k hlt)
     have HQ : Hid (∀ b, labB (nth L k) = b → (b = true → ∀ j, j < k + 1 → labB (nth L j) = true) ∧ (b = false → hostL L = false)) := by
      intro b hb
      refine ⟨fun h j hj => ?_, fun h => hostL_no hlt (hb.trans h)⟩
      by_cases e : j = k
      ·subst e; exact hb.trans h
      ·exact HD.out j (by omega)
     clear HD
     generalize nth L k = x at *
     have HL := hide (labelOk_any x (by have := HS.out; omega) wr)
     cases e1 : labB x
     ·have HK := hide ((HQ.out false e1).2 rfl)
      rw [e1] at HL
      clear HQ
      go_wp2_with (go_at_call 132; refine HL.out.mono ?_; rintro e w2 ⟨rfl, hE2⟩; have HE2 := hide hE2; clear hE2)
      go_ret
      exact ⟨ret_bool (by rw [HH.out, HK.out]), Ext.trans HE.out (Ext.trans HX.out HE2.out)⟩
     ·have HK := hide ((HQ.out true e1).1 rfl)
      rw [e1] at HL
      clear HQ
      go_wp2_with (go_at_call 132; refine HL.out.mono ?_; rintro e w2 ⟨rfl, hE2⟩; have HE2 := hide hE2; clear hE2)
      go_roundw
      case rel => exact ⟨k + 1, by omega, by go_num, HK.out, Ext.trans HX.out HE2.out⟩
      case measure => simp [intOf]; omega
    ·obtain rfl : k = L.length := by omega
     have HF := hide (hostL_end HD.out)
     have h1 := HN.out
     have hc : wr.cell? ⟨g, L.length - 1, none⟩ = some (.string (nth L (L.length - 1))) := (Below.cell HX.out (p := ⟨g, L.length - 1, none⟩) HG.out).trans (HC.out (L.length - 1) (by omega))
     have hq : (0 : Int) ≤ (L.length : Int) - 1 := by omega
     have hq1 : (L.length : Int) - 1 < (L.length : Int) := by omega
     have hq2 : ((L.length : Int) - 1).toNat = L.length - 1 := by omega
     have HL := hide (allDecimal_any (nth L (L.length - 1)) (by have := HZ.out (L.length - 1) (by omega); omega) wr)
     clear HD HC
     generalize nth L (L.length - 1) = x at *
     generalize digB x = b at *
     have hq3 : wrap64 ((L.length : Int) - 1) = (L.length : Int) - 1 := by unfold wrap64; omega
     go_wp2_with (go_at_call 133; refine HL.out.mono ?_; rintro e w2 ⟨rfl, hE2⟩; have HE2 := hide hE2; clear hE2)
     go_ret
     exact ⟨ret_bool (by rw [HH.out, HF.out]; simp [h8]), Ext.trans HE.out (Ext.trans HX.out HE2.out)⟩
  ·have g8 : (8 : Int) < (L.length : Int) := by omega
   go_wp2
   go_ret
   exact ⟨ret_bool (by rw [HH.out]; simp [hostL, h8]), HE.out⟩
 ·have g1 : (80 : Int) < (s.size : Int) := by omega
  go_enter Tryz.func109, Tryz.ntmps109
  go_wp2
  go_ret
  exact ⟨ret_bool (by simp [hostB, h80]), Ext.refl _⟩
def dotFrom (s : ByteArray) : Nat → Nat → Nat
 | 0, k => k
 | n + 1, k => if bt s k = 46 then k else dotFrom s n (k + 1)
def dot (s : ByteArray) : Nat := dotFrom s s.size 0
def starE (s : ByteArray) : Bool := eqS (s.extract 0 2) ⟨#[42, 46]⟩
def starB (s : ByteArray) : Bool := decide (2 ≤ s.size) && starE s
def base (s : ByteArray) : ByteArray := if starB s then s.extract 2 s.size else s
set_option maxHeartbeats 1000000 in
theorem hasPrefix_any (s : ByteArray) (hs : s.size ≤ 4194304) (w : World) :
  Calls Tryz.prog 174 #[.string s, .string ⟨#[42, 46]⟩] w fun e w' => e = .returned (.bool (starB s)) ∧ w' = w := by
 by_cases h : 2 ≤ s.size
 ·have g : (2 : Int) ≤ s.size := by omega
  have HE : Hid (starB s = ((s.extract 0 2).toList == (⟨#[42, 46]⟩ : ByteArray).toList)) := by show _ = _; unfold starB starE eqS; simp [h]
  go_enter Tryz.func174, Tryz.ntmps174
  go_wp2
  go_ret
  exact ⟨ret_bool (by rw [HE.out, ByteArray.toList_eq ⟨#[42, 46]⟩]), rfl⟩
 ·have g : ¬ (2 : Int) ≤ s.size := by omega
  go_enter Tryz.func174, Tryz.ntmps174
  go_wp2
  go_ret
  exact ⟨ret_bool (by simp [starB, h]), rfl⟩
set_option maxHeartbeats 1000000 in
theorem cutPrefix0_any (s : ByteArray) (hs : s.size ≤ 4194304) (w : World) :
  Calls Tryz.prog 153 #[.string s, .string ⟨#[42, 46]⟩] w fun e w' => e = .returned (.tuple #[.string (base s), .bool (starB s)]) ∧ w' = w := by
 have HP := hide (hasPrefix_any s hs w)
 cases h : starB s
 ·have hb : base s = s := by unfold base; rw [h]; simp
  rw [hb]
  rw [h] at HP
  go_enter Tryz.func153, Tryz.ntmps153
  go_wp2_with (go_at_call 174; refine HP.out.mono ?_; rintro e w' ⟨rfl, rfl⟩)
  go_ret2
  exact ⟨rfl, rfl⟩
 ·have hb : base s = s.extract 2 s.size := by unfold base; rw [h]; simp
  rw [hb]
  rw [h] at HP
  have g : (2 : Int) ≤ s.size := by
   unfold starB at h
   simp only [Bool.and_eq_true, decide_eq_true_eq] at h
   omega
  go_enter Tryz.func153, Tryz.ntmps153
  go_wp2_with (go_at_call 174; refine HP.out.mono ?_; rintro e w' ⟨rfl, rfl⟩)
  go_ret2
  exact ⟨rfl, rfl⟩
set_option maxHeartbeats 1000000 in
theorem cutPrefix_any (s : ByteArray) (hs : s.size ≤ 4194304) (w : World) :
  Calls Tryz.prog 128 #[.string s, .string ⟨#[42, 46]⟩] w fun e w' => e = .returned (.tuple #[.string (base s), .bool (starB s)]) ∧ w' = w := by
 have HP := hide (cutPrefix0_any s hs w)
 generalize base s = A at *
 generalize starB s = F at *
 go_enter Tryz.func128, Tryz.ntmps128
 go_wp2_with (go_at_call 153; refine HP.out.mono ?_; rintro e w' ⟨rfl, rfl⟩)
 go_ret2
 exact ⟨rfl, rfl⟩
set_option maxHeartbeats 1000000 in
theorem l8Star_any (s : ByteArray) (hs : s.size ≤ 4194304) (w : World) :
  Calls Tryz.prog 146 #[.string s] w fun e w' => e = .returned (.bool (decide (2 < s.size) && starE s)) ∧ w' = w := by
 by_cases h : 2 < s.size
 ·have g : (2 : Int) < s.size := by omega
  have g2 : (2 : Int) ≤ s.size := by omega
  have HE : Hid ((decide (2 < s.size) && starE s) = ((s.extract 0 2).toList == (⟨#[42, 46]⟩ : ByteArray).toList)) := by show _ = _; unfold starE eqS; simp [h]
  go_enter Tryz.func146, Tryz.ntmps146
  go_wp2
  go_ret
  exact ⟨ret_bool (by rw [HE.out, ByteArray.toList_eq ⟨#[42, 46]⟩]), rfl⟩
 ·have g : ¬ (2 : Int) < s.size := by omega
  go_enter Tryz.func146, Tryz.ntmps146
  go_wp2
  go_ret
  exact ⟨ret_bool (by simp [h]), rfl⟩
def patB (s : ByteArray) : Bool := hostB (base s) && (!starB s || decide (1 < (parts (base s) 46).length))
theorem host_none : hostB ⟨#[]⟩ = false := by decide +kernel
theorem host_star : hostB ⟨#[42, 46]⟩ = false := by decide +kernel
theorem star_two {s : ByteArray} (h : s.size = 2) (e : starE s = true) : s = ⟨#[42, 46]⟩ := by
 have h1 := (eqS_iff _ _).1 e
 rw [← h] at h1
 rw [← h1]
 simp
theorem patB_spec (s : ByteArray) : patB s = if (decide (2 < s.size) && starE s) = true then hostB (s.extract 2 s.size) && decide (2 ≤ (parts (s.extract 2 s.size) 46).length) else hostB s := by
 by_cases h2 : 2 < s.size
 ·cases e : starE s
  ·have hb : starB s = false := by unfold starB; rw [e]; simp
   have hc : base s = s := by unfold base; rw [hb]; simp
   simp [patB, hb, hc]
  ·have hb : starB s = true := by unfold starB; rw [e]; simp; omega
   have hc : base s = s.extract 2 s.size := by unfold base; rw [hb]; simp
   simp only [patB, hb, hc, h2, decide_true, Bool.true_and, if_true, Bool.not_true, Bool.false_or]
   rfl
 ·simp only [h2, decide_false, Bool.false_and, if_neg (by decide : ¬ false = true)]
  cases hb : starB s
  ·have hc : base s = s := by unfold base; rw [hb]; simp
   simp [patB, hb, hc]
  ·have hx := hb
   unfold starB at hx
   simp only [Bool.and_eq_true, decide_eq_true_eq] at hx
   have hs := star_two (by omega) hx.2
   have hc : base s = ⟨#[]⟩ := by unfold base; rw [hb, hs]; simp; rfl
   rw [patB, hc, host_none, hs, host_star, Bool.false_and]
end
end Go.Proofs.YtfhiiakoilkbkaaGreatDoor
