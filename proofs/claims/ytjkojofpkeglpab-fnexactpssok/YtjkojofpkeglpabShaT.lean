/- Walks: the program's padding and the model's l1Bytes; what a digest is. -/
import Derived.Test.YtjkojofpkeglpabShaS
import Derived.Test.YtjkojofpkeglpabBCat
namespace Go.Proofs.Ytjkojofpkeglpab
set_option linter.unusedVariables false
set_option linter.unusedSimpArgs false
open Go.RowKit

/-- How many bytes 0 lie between the byte 128 and the length. -/
def padZ (many : Nat) : Nat := (119 - many % 64) % 64
/-- What comes behind so many bytes. -/
def padV (many : Nat) (i : Nat) : Int := if i = 0 then 128 else if i < 5 + padZ many then 0 else wb (8 * many) (i - (5 + padZ many))

theorem padZ_lt (many : Nat) : padZ many < 64 := by unfold padZ; omega

theorem wb_zero (i : Nat) : wb 0 i = 0 := by
  unfold wb
  split <;> rfl
theorem wb_bound (x : Int) (h0 : 0 ≤ x) (h1 : x < 4294967296) (i : Nat) : 0 ≤ wb x i ∧ wb x i < 256 := by
  unfold wb
  split <;> omega
theorem padV_bound (many : Nat) (h : many ≤ 20000) (i : Nat) : 0 ≤ padV many i ∧ padV many i < 256 := by
  unfold padV
  split
  · omega
  · split
    · omega
    · exact wb_bound _ (by omega) (by omega) _

/-- The first byte 128, then k noughts. -/
def markF (i : Nat) : Int := if i = 0 then 128 else 0

theorem zeroCells_list (k : Nat) : (Builtin.zeroCells (Value.int .u8 0).cells k).toList = List.replicate k (.int .u8 0) := by
  refine List.ext_getElem ?_ ?_
  · simp [Builtin.zeroCells, Value.cells]
  · intro i h1 h2
    simp [Builtin.zeroCells, Value.cells, Nat.mod_one]

theorem byts_mark (k : Nat) : [Value.int .u8 128] ++ List.replicate k (.int .u8 0) = byts markF (1 + k) := by
  induction k with
  | zero => rfl
  | succ k ih => rw [List.replicate_succ', ← List.append_assoc, ih, ← Nat.add_assoc, byts_succ]; simp [markF]

/-- What a stream's digest is: the state's bytes, the highest first. -/
def stB (h : Nat → Int) (i : Nat) : Int := wb (h (i / 4)) (i % 4)

theorem pad_append (z : Nat) (hz : z ≤ 64) (ty : TypeId) (w : World) : ∃ v' w', (Builtin.append_ #[22, 3] ty #[.slice (some ⟨w.heap.size, 0, none⟩) 1 1, .int .i64 z]).run Try.prog (w.alloc (.cells #[.int .u8 128] 5)) = .ok v' w' ∧ w'.ownsRow w.heap.size 5 1 v' (1 + z) (byts markF (1 + z)) ∧ Ext w w' := by
  obtain ⟨i0, hi, hz0, hz1, hz2⟩ := info_parts Try.info5
  have hB := Blk.alloc w [.int .u8 128] 5
  have hE := Ext.alloc w (.cells #[.int .u8 128] 5)
  by_cases h0 : z = 0
  · subst h0
    refine ⟨.slice (some ⟨w.heap.size, 0, none⟩) 1 1, w.alloc (.cells #[.int .u8 128] 5), ?_, ?_, hE⟩
    · have hw : IntKind.i64.wrap 0 = 0 := by decide
      simp [Builtin.append_, run_underlying Try.underlying22, run_underlying Try.underlying3, sizeOf, typeInfo, hi, asInt, asIntOf, hw, storeCells]
    · refine ⟨rfl, .inr ⟨w.heap.size, 1, #[.int .u8 128], rfl, Nat.le_refl _, heap_alloc_new w _, by omega, by unfold maxLen; omega, rfl, rfl⟩⟩
  · have hS : (w.alloc (.cells #[.int .u8 128] 5)).heap.size = w.heap.size + 1 := World.size_alloc _ _
    have hg := Lib.run_append_grow_zeros (w.alloc (.cells #[.int .u8 128] 5)) 22 3 ty 5 i0 (.int .u8 0) .i64 .i64 Try.underlying22 Try.underlying3 hi hz0 (some ⟨w.heap.size, 0, none⟩) 1 1 [.int .u8 128] (by
      rw [hz1]
      exact run_firstCells_some _ 1 1 ⟨w.heap.size, 0, none⟩ 1 1 [.int .u8 128] rfl (fun j u hj => by
        have hj0 : j = 0 := by have := (List.getElem?_eq_some_iff.1 hj).1; simp at this; omega
        subst hj0
        have := (hB 0 _ hj).1
        simpa [Addr.add] using this)) z (by omega) (by omega) (by omega) (by omega) (by rw [hz2]; omega) (by rw [hz2]; simp only [Builtin.nextslicecap]; split <;> (try split) <;> omega)
    have hge := grownCap_ge (w.alloc (.cells #[.int .u8 128] 5)) (1 + z) 1 5
    have hcm : grownCap (w.alloc (.cells #[.int .u8 128] 5)) (1 + z) 1 5 ≤ maxLen := grownCap_le_maxLen _ _ 1 5 (by unfold maxLen; omega)
    generalize grownCap (w.alloc (.cells #[.int .u8 128] 5)) (1 + z) 1 5 = cap at *
    refine ⟨_, _, hg, ?_, hE.trans (Ext.trans (b := (w.alloc (.cells #[.int .u8 128] 5)).drew) ⟨rfl, rfl, rfl, Nat.le_refl _, fun _ _ => rfl⟩ (Ext.alloc _ _))⟩
    refine ⟨by rw [byts_length, Nat.mul_one], .inr ⟨_, cap, _, rfl, by rw [hS]; omega, heap_alloc_new (w.alloc (.cells #[.int .u8 128] 5)).drew _, hge, hcm, ?_, ?_⟩⟩
    · simp [size_zeroCells, Value.cells]
      omega
    · rw [Array.toList_append, Array.toList_append, zeroCells_list, List.toList_toArray, byts_mark, Nat.mul_one]
      rw [List.take_append_of_le_length (by rw [byts_length]; exact Nat.le_refl _), List.take_of_length_le (by rw [byts_length]; exact Nat.le_refl _)]

set_option maxHeartbeats 1600000 in
set_option maxRecDepth 100000 in
theorem padding_any (many : Nat) (hm : many ≤ 20000) (w : World) : Calls Try.prog 86 #[.int .i64 many] w fun e w' => GivesR w (9 + padZ many) (padV many) e w' := by
  obtain ⟨i0, hi, hz0, hz1, hz2⟩ := info_parts Try.info5
  obtain ⟨z, hz⟩ : ∃ z, padZ many = z := ⟨_, rfl⟩
  have hzl : z < 64 := by rw [← hz]; exact padZ_lt _
  have HF : Hid (∀ i, i < 9 + z → catF (catF markF (1 + z) (wb 0)) (1 + z + 4) (wb (8 * (many : Int))) i = padV many i) := hide (fun i hi => by
    unfold padV catF markF
    rw [hz]
    by_cases e0 : i = 0
    · have a1 : i < 1 + z + 4 := by omega
      have a2 : i < 1 + z := by omega
      simp only [a1, a2, e0, if_true]
      simp
    · by_cases e1 : i < 1 + z
      · have a1 : i < 1 + z + 4 := by omega
        have a2 : i < 5 + z := by omega
        simp only [a1, a2, e0, e1, if_true, if_false]
      · by_cases e2 : i < 1 + z + 4
        · have a2 : i < 5 + z := by omega
          simp only [a2, e0, e1, e2, if_true, if_false, wb_zero]
        · have a2 : ¬ i < 5 + z := by omega
          simp only [a2, e0, e1, e2, if_false, show i - (1 + z + 4) = i - (5 + z) by omega])
  have HI : Hid (∀ w, Calls Try.prog 115 #[.int .i64 (-((many : Int) + 1 + 8)), .int .i64 64] w fun e w' => e = .returned (.int .i64 z) ∧ w' = w) := hide (fun w => by
    go_enter Try.func115, Try.ntmps115
    go_wp2
    go_ret
    exact ⟨ret_int (by rw [← hz]; unfold padZ; omega), rfl⟩)
  have HA := hide (pad_append z (by omega) 22 w)
  rw [hz]
  clear hz
  go_enter Try.func86, Try.ntmps86
  go_wp2_with fail
  refine (HI.out _).mono ?_
  rintro e w0 ⟨rfl, hw0⟩
  replace hw0 := hw0.symm
  subst hw0
  obtain ⟨v1, w1, hr1, hO1, hE1⟩ := HA.out
  have Hr := hide hr1
  have HO := hide hO1
  have HE := hide hE1
  clear HA hr1 hO1 hE1 HI
  go_wp2_with (at_builtin; refine Lib.wpList_append_run _ rfl _ _ _ _ rfl _ _ rfl rfl _ _ Hr.out ?_)
  clear Hr
  go_wp2_with fail
  refine (appendWord_any w.heap.size v1 (1 + z) markF 0 w1 HO.out (by omega) (Below.size HE.out) (by omega) (by omega)).mono ?_
  rintro e w2 ⟨v2, rfl, hO2, hE2⟩
  have HO2 := hide hO2
  have HE2 : Hid (Ext w w2) := hide (Below.trans HE.out hE2)
  clear HO HE hO2 hE2
  have m0 : 0 ≤ 8 * (many : Int) := by omega
  have m1 : 8 * (many : Int) < 4294967296 := by omega
  go_wp2_with fail
  refine (appendWord_any w.heap.size v2 (1 + z + 4) _ (8 * (many : Int)) w2 HO2.out (by omega) (Below.size HE2.out) (by omega) (by omega)).mono ?_
  rintro e w3 ⟨v3, rfl, hO3, hE3⟩
  have HO3 : Hid (w3.ownsRow w.heap.size 5 1 v3 (9 + z) (byts (padV many) (9 + z))) := hide (by
    have := hO3
    rw [show 1 + z + 4 + 4 = 9 + z by omega] at this
    exact owns_congr this HF.out)
  have HE3 : Hid (Ext w w3) := hide (Below.trans HE2.out hE3)
  clear HO2 HE2 hO3 hE3 HF
  go_wp2
  go_ret
  exact ⟨_, rfl, HO3.out, HE3.out⟩

end Go.Proofs.Ytjkojofpkeglpab
