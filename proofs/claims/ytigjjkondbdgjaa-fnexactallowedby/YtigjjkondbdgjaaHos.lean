/- Walks: parts of a text, labels, HostOk of both. -/
import Derived.Test.YtigjjkondbdgjaaStr
import Derived.Test.YtigjjkondbdgjaaNatOk
namespace Go.Proofs.Ytigjjkondbdgjaa
set_option linter.unusedVariables false
set_option linter.unusedSimpArgs false
open Go.RowKit

/-- The parts of s between bytes m, from place k on, the part under way beginning at fr. -/
def partsFrom (s : ByteArray) (m : Nat) : Nat → Nat → Nat → List ByteArray
  | 0, k, fr => [s.extract fr s.size]
  | n + 1, k, fr => if bt s k = m then s.extract fr k :: partsFrom s m n (k + 1) (k + 1) else partsFrom s m n (k + 1) fr
def parts (s : ByteArray) (m : Nat) : List ByteArray := partsFrom s m s.size 0 0

theorem partsFrom_ne (s : ByteArray) (m : Nat) : ∀ n k fr, 1 ≤ (partsFrom s m n k fr).length
  | 0, k, fr => by simp [partsFrom]
  | n + 1, k, fr => by
    unfold partsFrom
    split
    · simp
    · exact partsFrom_ne s m n _ _
theorem parts_ne (s : ByteArray) (m : Nat) : 1 ≤ (parts s m).length := partsFrom_ne s m _ _ _
theorem partsFrom_le (s : ByteArray) (m : Nat) : ∀ n k fr, (partsFrom s m n k fr).length ≤ n + 1
  | 0, k, fr => by simp [partsFrom]
  | n + 1, k, fr => by
    unfold partsFrom
    split
    · have := partsFrom_le s m n (k + 1) (k + 1); simp; omega
    · have := partsFrom_le s m n (k + 1) fr; omega
theorem parts_le (s : ByteArray) (m : Nat) : (parts s m).length ≤ s.size + 1 := partsFrom_le s m _ _ _

theorem partsFrom_skip (s : ByteArray) (m : Nat) (fr : Nat) : ∀ q n k, (∀ j, k ≤ j → j < k + q → bt s j ≠ m) → partsFrom s m (n + q) k fr = partsFrom s m n (k + q) fr
  | 0, n, k, _ => rfl
  | q + 1, n, k, h => by
    rw [← Nat.add_assoc, partsFrom, if_neg (h k (Nat.le_refl _) (by omega)), partsFrom_skip s m fr q n (k + 1) (fun j h1 h2 => h j (by omega) (by omega))]
    congr 1
    omega

/-- The list's i-th text. -/
def nth (L : List ByteArray) (i : Nat) : ByteArray := L.getD i ⟨#[]⟩
def strs (L : List ByteArray) : List Value := L.map .string

theorem strs_one (s : ByteArray) : ∀ u ∈ [Value.string s], u.oneCell' = true := by
  intro u hu
  simp at hu
  subst hu
  rfl

/-- A new list of strings, not empty. -/
def GivesL (w : World) (L : List ByteArray) (e : Ending) (w' : World) : Prop :=
  ∃ g cap, e = .returned (.slice (some ⟨g, 0, none⟩) L.length cap) ∧ (∀ i, i < L.length → w'.cell? ⟨g, i, none⟩ = some (.string (nth L i))) ∧ Ext w w'

theorem owns_strs {w : World} {B : Nat} {v : Value} {L : List ByteArray} (h : w.ownsRow B 9 1 v L.length (strs L)) (hL : 1 ≤ L.length) :
    ∃ g cap, v = .slice (some ⟨g, 0, none⟩) L.length cap ∧ ∀ i, i < L.length → w.cell? ⟨g, i, none⟩ = some (.string (nth L i)) := by
  rcases h.2 with ⟨rfl, h0⟩ | ⟨g, cap, cur, rfl, hg, hb, hn, hm, hs, ht⟩
  · omega
  · refine ⟨g, cap, rfl, fun i hi => ?_⟩
    have hx : (cur.toList.take (L.length * 1))[i]? = some (.string (nth L i)) := by rw [ht]; simp [strs, nth, hi]
    rw [List.getElem?_take] at hx
    simp only [Nat.mul_one, hi, if_true] at hx
    simp [World.cell?, hb]
    simpa using hx

theorem strs_step {acc : List ByteArray} {w wr w1 : World} {v v' : Value} {o : Obj} {x : ByteArray} (hO : wr.ownsRow w.heap.size 9 1 v acc.length (strs acc)) (hE : Ext w wr)
    (hown : w1.ownsRow w.heap.size 9 1 v' (acc.length + 1) (strs acc ++ [.string x])) (hg : (wr.alloc o).grownBy w1 v.ownBlock) : w1.ownsRow w.heap.size 9 1 v' (acc ++ [x]).length (strs (acc ++ [x])) ∧ Ext w w1 := by
  refine ⟨?_, (Below.alloc hE (Below.size hE) o).grown hg (by have := Below.size hE; simp; omega) (fun j hj => (hO.lt j hj).1)⟩
  simpa [strs] using hown

set_option maxHeartbeats 1600000 in
set_option maxRecDepth 100000 in
theorem l8Parts_any (s : ByteArray) (m : Nat) (hs : s.size ≤ 1048576) (hm : m < 256) (w : World) :
    Calls Try.prog 54 #[.string s, .int .u8 (m : Int)] w fun e w' => GivesL w (parts s m) e w' := by
  obtain ⟨i0, hi, hz0, hz1, hz2⟩ := info_parts Try.infoS
  have HO := hide (World.ownsRow_made (base := w.heap.size) (e := 9) (size := 1) w #[] 0 (Nat.le_refl _) (by simp) rfl)
  go_enter Try.func54, Try.ntmps54
  go_wp2
  go_loopw [5, 6, 7] (fun v f i wr => ∃ k fr : Nat, k ≤ s.size ∧ fr ≤ k ∧ i = .int .i64 k ∧ f = .int .i64 fr ∧ ∃ acc : List ByteArray, acc.length ≤ k ∧ wr.ownsRow w.heap.size 9 1 v acc.length (strs acc) ∧ Ext w wr ∧ acc ++ partsFrom s m (s.size - k) k fr = parts s m) (fun _ _ i _ => s.size - (intOf i).toNat)
  case atStart => exact ⟨0, 0, Nat.zero_le _, Nat.le_refl _, rfl, rfl, [], Nat.le_refl _, HO.out, Ext.alloc _ _, rfl⟩
  case round =>
    clear HO
    obtain ⟨k, fr, hk, hfk, rfl, rfl, acc, hal, hO, hE, hP⟩ := hrel
    have HO := hide hO
    have HE := hide hE
    have HP := hide hP
    have Hal := hide hal
    have Hfk := hide hfk
    clear hO hE hP hal hfk
    by_cases hlt : k < s.size
    · have hb := bt_get s k hlt
      have h2 := bt_lt s k
      have hkn : (k : Int) < (s.size : Int) := by omega
      have hkn' : (k : Int) ≤ (s.size : Int) := by omega
      have hfk' : (fr : Int) ≤ (k : Int) := by have := Hfk.out; omega
      have HF : Hid (partsFrom s m (s.size - k) k fr = if bt s k = m then s.extract fr k :: partsFrom s m (s.size - (k + 1)) (k + 1) (k + 1) else partsFrom s m (s.size - (k + 1)) (k + 1) fr) := by
        show _ = _
        rw [show s.size - k = (s.size - (k + 1)) + 1 by omega, partsFrom]
      generalize bt s k = c at *
      by_cases he : c = m
      · subst he
        have HX : Hid ((acc ++ [s.extract fr k]) ++ partsFrom s c (s.size - (k + 1)) (k + 1) (k + 1) = parts s c) := by
          show _ = _
          rw [← HP.out, HF.out, if_pos rfl]
          simp
        go_wp2_with (at_builtin; refine wpList_append_own _ rfl _ _ 22 rfl w.heap.size 9 i0 (.string ⟨#[]⟩) 1 16 Try.underlying22 hi hz0 hz1 hz2 rfl (by decide) _ _ _ rfl (HO.out.alloc _) ⟨wr.heap.size, 0, none⟩ 1 1 [.string (s.extract fr k)] rfl rfl (cell_one_new _ _ _) (strs_one _) (by have := Hal.out; unfold maxLen; omega) (by have := Hal.out; omega) (by have := Below.size HE.out; simp; omega) ?_; intro v' w1 hown' hgrow hnil)
        have HN := hide (strs_step HO.out HE.out hown' hgrow)
        clear hown' hgrow hnil
        go_wp2
        go_roundw
        case rel => exact ⟨k + 1, k + 1, by omega, Nat.le_refl _, by go_num, by go_num, acc ++ [s.extract fr k], by have := Hal.out; simp; omega, HN.out.1, HN.out.2, HX.out⟩
        case measure => simp [intOf]; omega
      · have hne : ((c : Int) == (m : Int)) = false := by simp; omega
        have HX : Hid (acc ++ partsFrom s m (s.size - (k + 1)) (k + 1) fr = parts s m) := by
          show _ = _
          rw [← HP.out, HF.out, if_neg he]
        go_wp2
        go_roundw
        case rel => exact ⟨k + 1, fr, by omega, by have := Hfk.out; omega, by go_num, rfl, acc, by have := Hal.out; omega, HO.out, HE.out, HX.out⟩
        case measure => simp [intOf]; omega
    · obtain rfl : k = s.size := by omega
      have hfk' : (fr : Int) ≤ (s.size : Int) := by have := Hfk.out; omega
      have HX : Hid (acc ++ [s.extract fr s.size] = parts s m) := by
        show _ = _
        rw [← HP.out, Nat.sub_self, partsFrom]
      go_wp2_with (at_builtin; refine wpList_append_own _ rfl _ _ 22 rfl w.heap.size 9 i0 (.string ⟨#[]⟩) 1 16 Try.underlying22 hi hz0 hz1 hz2 rfl (by decide) _ _ _ rfl (HO.out.alloc _) ⟨wr.heap.size, 0, none⟩ 1 1 [.string (s.extract fr s.size)] rfl rfl (cell_one_new _ _ _) (strs_one _) (by have := Hal.out; unfold maxLen; omega) (by have := Hal.out; omega) (by have := Below.size HE.out; simp; omega) ?_; intro v' w1 hown' hgrow hnil)
      have hN := strs_step HO.out HE.out hown' hgrow
      rw [HX.out] at hN
      obtain ⟨g, cap, rfl, hg⟩ := owns_strs hN.1 (parts_ne s m)
      have Hg := hide hg
      have HN := hide hN.2
      clear hown' hgrow hnil hg hN
      go_wp2
      go_ret
      exact ⟨g, cap, rfl, Hg.out, HN.out⟩

set_option maxHeartbeats 1600000 in
set_option maxRecDepth 100000 in
theorem pieces_any (s : ByteArray) (hs : s.size ≤ 1048576) (w : World) :
    Calls Try.prog 57 #[.string s] w fun e w' => GivesL w (parts s 46) e w' := by
  obtain ⟨i0, hi, hz0, hz1, hz2⟩ := info_parts Try.infoS
  have hO0 := World.ownsRow_made (base := w.heap.size) (e := 9) (size := 1) w #[] 0 (Nat.le_refl _) (by simp) rfl
  have HO := hide (hO0.alloc (.stringIter s 0))
  have HI := hide (Itr.start (Ext.alloc w (.cells #[] 9)) s)
  clear hO0
  go_enter Try.func57, Try.ntmps57
  go_wp2
  go_loopw [3, 4] (fun v f wr => ∃ p fr : Nat, p ≤ s.size ∧ fr ≤ p ∧ f = .int .i64 fr ∧ Itr w wr (w.heap.size + 1) s p ∧ ∃ acc : List ByteArray, acc.length ≤ p ∧ wr.ownsRow w.heap.size 9 1 v acc.length (strs acc) ∧ acc ++ partsFrom s 46 (s.size - p) p fr = parts s 46) (fun _ _ wr => s.size - wr.iterPos (w.heap.size + 1))
  case atStart =>
    have hI := HI.out
    rw [show (w.alloc (.cells #[] 9)).heap.size = w.heap.size + 1 by simp] at hI
    exact ⟨0, 0, Nat.zero_le _, Nat.le_refl _, rfl, hI, [], Nat.le_refl _, HO.out, rfl⟩
  case round =>
    clear HO HI
    obtain ⟨p, fr, hp, hfp, rfl, hI, acc, hal, hO, hP⟩ := hrel
    have HP := hide hP
    have Hal := hide hal
    have Hfp := hide hfp
    clear hP hal hfp
    by_cases hlt : p < s.size
    · obtain ⟨r, q, hR⟩ := rn_at s p hlt
      have hnx : ∀ ty, (Instr.next (.pointer (some ⟨w.heap.size + 1, 0, none⟩)) true ty).run Try.prog wr = _ := fun ty => hR.next hI.blk hlt ty
      have HM : Hid (wr.iterPos (w.heap.size + 1) = p) := hI.pos
      have HR := hide hR
      have h2 := hR.le
      have HI := hide (hI.step (p + q))
      have HO := hide (own_iterAt hO hI.blk (p + q))
      clear hI hR hO
      generalize wr.iterAt (w.heap.size + 1) s (p + q) = w2 at *
      by_cases he : r = 46
      · subst he
        obtain ⟨hq, hb⟩ := HR.out.low (by omega)
        subst hq
        have hkn' : (p : Int) ≤ (s.size : Int) := by omega
        have hfk' : (fr : Int) ≤ (p : Int) := by have := Hfp.out; omega
        have HX : Hid ((acc ++ [s.extract fr p]) ++ partsFrom s 46 (s.size - (p + 1)) (p + 1) (p + 1) = parts s 46) := by
          show _ = _
          rw [← HP.out, show s.size - p = (s.size - (p + 1)) + 1 by omega, partsFrom, if_pos hb.symm]
          simp
        clear hb
        go_wp2_with (at_builtin; refine wpList_append_own _ rfl _ _ 22 rfl w.heap.size 9 i0 (.string ⟨#[]⟩) 1 16 Try.underlying22 hi hz0 hz1 hz2 rfl (by decide) _ _ _ rfl (HO.out.alloc _) ⟨w2.heap.size, 0, none⟩ 1 1 [.string (s.extract fr p)] rfl rfl (cell_one_new _ _ _) (strs_one _) (by have := Hal.out; unfold maxLen; omega) (by have := Hal.out; omega) (by have := Below.size HI.out.ext; simp; omega) ?_; intro v' w1 hown' hgrow hnil)
        have HN := hide (strs_step HO.out HI.out.ext hown' hgrow)
        have HI2 := hide (HI.out.grown HO.out (Nat.le_refl _) hgrow)
        clear hown' hgrow hnil
        go_wp2
        go_roundw
        case rel => exact ⟨p + 1, p + 1, by omega, Nat.le_refl _, by go_num, HI2.out, acc ++ [s.extract fr p], by have := Hal.out; simp; omega, HN.out.1, HX.out⟩
        case measure => rw [HM.out, HI2.out.pos]; omega
      · have hne : ((r : Int) == 46) = false := by simp; omega
        have HX : Hid (acc ++ partsFrom s 46 (s.size - (p + q)) (p + q) fr = parts s 46) := by
          show _ = _
          have h3 := HR.out.fits
          rw [← HP.out, show s.size - p = (s.size - (p + q)) + q by omega, partsFrom_skip]
          intro j h4 h5
          by_cases h6 : r < 128
          · obtain ⟨rfl, h7⟩ := HR.out.low h6
            obtain rfl : j = p := by omega
            omega
          · have := HR.out.high (by omega) j h4 h5
            omega
        go_wp2
        go_roundw
        case rel => exact ⟨p + q, fr, HR.out.fits, by have := Hfp.out; omega, rfl, HI.out, acc, by have := Hal.out; omega, HO.out, HX.out⟩
        case measure => rw [HM.out, HI.out.pos]; have := HR.out.pos; omega
    · obtain rfl : p = s.size := by omega
      have hnx : ∀ ty, (Instr.next (.pointer (some ⟨w.heap.size + 1, 0, none⟩)) true ty).run Try.prog wr = _ := fun ty => Lib.run_next_end_at wr (w.heap.size + 1) s s.size ty hI.blk hlt
      have hfk' : (fr : Int) ≤ (s.size : Int) := by have := Hfp.out; omega
      have HE := hide hI.ext
      have HO := hide hO
      clear hI hO
      have HX : Hid (acc ++ [s.extract fr s.size] = parts s 46) := by
        show _ = _
        rw [← HP.out, Nat.sub_self, partsFrom]
      go_wp2_with (at_builtin; refine wpList_append_own _ rfl _ _ 22 rfl w.heap.size 9 i0 (.string ⟨#[]⟩) 1 16 Try.underlying22 hi hz0 hz1 hz2 rfl (by decide) _ _ _ rfl (HO.out.alloc _) ⟨wr.heap.size, 0, none⟩ 1 1 [.string (s.extract fr s.size)] rfl rfl (cell_one_new _ _ _) (strs_one _) (by have := Hal.out; unfold maxLen; omega) (by have := Hal.out; omega) (by have := Below.size HE.out; simp; omega) ?_; intro v' w1 hown' hgrow hnil)
      have hN := strs_step HO.out HE.out hown' hgrow
      rw [HX.out] at hN
      obtain ⟨g, cap, rfl, hg⟩ := owns_strs hN.1 (parts_ne s 46)
      have Hg := hide hg
      have HN := hide hN.2
      clear hown' hgrow hnil hg hN
      go_wp2
      go_ret
      exact ⟨g, cap, rfl, Hg.out, HN.out⟩

end Go.Proofs.Ytigjjkondbdgjaa
