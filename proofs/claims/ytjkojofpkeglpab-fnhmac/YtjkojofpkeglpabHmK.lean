/- Walks: the program's keyBlock. -/
import Derived.Test.YtjkojofpkeglpabHmP
namespace Go.Proofs.Ytjkojofpkeglpab
set_option linter.unusedVariables false
set_option linter.unusedSimpArgs false
open Go.RowKit

theorem Try.size5 : (Try.prog.info? 5).map (·.size) = some 1 := by kernel_rfl

theorem blk_of_heap {w : World} {S : Nat} {vs : List Value} {t : TypeId} (h : w.heap[S]? = some (.cells vs.toArray t (0, 0))) : Blk w S vs := fun i v hi => by
  refine ⟨?_, by simp [World.frozen?, h]⟩
  simp [World.cell?, h]
  exact hi

theorem splice_bk (kf : Nat → Int) {kn : Nat} (hn : kn ≤ 64) : splice (List.replicate 64 (Value.int .u8 0)) 0 (byts kf kn) = bkC (kbF kf kn) := by
  refine List.ext_getElem? (fun i => ?_)
  simp only [splice, List.take_zero, List.nil_append, Nat.zero_add, byts_length]
  by_cases h1 : i < kn
  · rw [List.getElem?_append_left (by rw [byts_length]; exact h1), bkC_at _ (by omega)]
    simp [byts, h1, kbF]
  · rw [List.getElem?_append_right (by rw [byts_length]; omega), byts_length, List.getElem?_drop]
    by_cases h2 : i < 64
    · rw [bkC_at _ h2, show kn + (i - kn) = i by omega, zero_at h2]
      simp [kbF, h1]
    · rw [show kn + (i - kn) = i by omega, List.getElem?_eq_none (by rw [List.length_replicate]; omega), List.getElem?_eq_none (by rw [bkC_len]; omega)]

set_option maxHeartbeats 3200000 in
set_option maxRecDepth 100000 in
theorem keyBlock_short (ka : Option Addr) (kg koff kn kcap : Nat) (kf : Nat → Int) (w : World) (hs : BSeg w ka kg koff kn kf) (hn : kn ≤ 64) :
    Calls Try.prog 42 #[.slice ka kn kcap] w fun e w' => e = .returned (.agg (bkC (kbF kf kn)).toArray) ∧ Ext w w' := by
  have n64 : ¬ (64 : Int) < (kn : Int) := by omega
  go_enter Try.func42, Try.ntmps42
  apply wp_seq_k; intro K hK
  refine wp_region ?_
  refine wpOps_step _ rfl (by kernel_rfl) (wp_value (v := .pointer (some ⟨w.heap.size, 0, none⟩)) (w' := w.alloc (.cells (List.replicate 64 (.int .u8 0)).toArray 55)) (by kernel_rfl) ?_)
  show K _ _
  apply hK
  clear hK K
  have B := Blk.alloc w (List.replicate 64 (.int .u8 0)) 55
  have hE := Ext.alloc w (.cells (List.replicate 64 (.int .u8 0)).toArray 55)
  have hlt : w.heap.size < (w.alloc (.cells (List.replicate 64 (.int .u8 0)).toArray 55)).heap.size := by simp
  generalize w.alloc (.cells (List.replicate 64 (.int .u8 0)).toArray 55) = V at *
  apply wp_seq_k; intro K1 hK1
  have HK1 := hide hK1
  clear hK1
  have HE1 := hide hE
  have HB1 := hide B
  have Hlt := hide hlt
  have HKs := hide (hs.of_all hE)
  clear hE B hlt hs
  go_wp2
  apply HK1.out
  clear HK1
  obtain ⟨V1, hV1⟩ : ∃ V1, V = V1 := ⟨_, rfl⟩
  subst hV1
  apply wp_seq_k; intro K hK
  refine wp_region ?_
  refine wpOps_step _ rfl (by kernel_rfl) (wp_value (v := .pointer (some ⟨V.heap.size, 0, none⟩)) (w' := V.alloc (.cells (List.replicate 64 (.int .u8 0)).toArray 55)) (by kernel_rfl) ?_)
  show K _ _
  apply hK
  clear hK K
  have HE2 := hide (HE1.out.trans (Ext.alloc V (.cells (List.replicate 64 (.int .u8 0)).toArray 55)))
  have HB2 := hide (HB1.out.ext (Ext.alloc V (.cells (List.replicate 64 (.int .u8 0)).toArray 55)) Hlt.out)
  have HK2 := hide (HKs.out.of_all (Ext.alloc V (.cells (List.replicate 64 (.int .u8 0)).toArray 55)))
  have Hhp : Hid ((V.alloc (.cells (List.replicate 64 (.int .u8 0)).toArray 55)).heap[V.heap.size]? = some (.cells (List.replicate 64 (.int .u8 0)).toArray 55 (0, 0))) := hide (heap_alloc_new V _)
  have Hsz : Hid ((V.alloc (.cells (List.replicate 64 (.int .u8 0)).toArray 55)).heap.size = V.heap.size + 1) := hide (World.size_alloc _ _)
  generalize V.alloc (.cells (List.replicate 64 (.int .u8 0)).toArray 55) = V2 at *
  apply wp_seq_k; intro K4 hK4
  have HK4 := hide hK4
  clear hK4
  go_wp2_with (refine wpList_copy_splice rfl (.tmp 9) (.tmp 10) 22 22 rfl 5 Try.underlying22 Try.size5 (some ⟨V.heap.size, 0, none⟩) ka 64 64 kn kcap rfl rfl V.heap.size 0 (List.replicate 64 (.int .u8 0)) 55 Hhp.out (byts kf kn) ?c1 ?c2 ?c3 (byts_one kf kn) V.heap.size V2 (Below.refl _ _) (Nat.le_refl _) ?_)
  case c1 => rw [byts_length]; exact (Nat.min_eq_left hn).symm
  case c2 =>
    intro hp
    rw [byts_length] at hp
    refine ⟨⟨kg, koff, none⟩, HK2.out.at' hp, fun j v hj => ?_⟩
    have hj' : j < kn := by have := (List.getElem?_eq_some_iff.1 hj).1; rwa [byts_length] at this
    rw [show (byts kf kn)[j]? = some (.int .u8 (kf j)) by simp [byts, hj']] at hj
    obtain rfl := Option.some.inj hj
    have e : Addr.add ⟨kg, koff, none⟩ j = ⟨kg, koff + j, none⟩ := by
      by_cases h0 : j = 0
      · subst h0; simp [Addr.add]
      · simp [Addr.add, h0]
    rw [e]
    exact HK2.out.cell j hj'
  case c3 => rw [byts_length, List.length_replicate]; omega
  intro w3 h3 h3b
  have B3 : Blk w3 V.heap.size (bkC (kbF kf kn)) := blk_of_heap (by rw [← splice_bk kf hn]; exact h3.out)
  have hB4 : Blk w3 w.heap.size (List.replicate 64 (.int .u8 0)) := HB2.out.below h3b (by have := Hlt.out; omega)
  have HE3 : Hid (Ext w w3) := hide (Below.trans HE2.out (h3b.mono (Nat.le_trans (Below.size HE1.out) (Nat.le_refl _))))
  have hl := run_loadB _ (bkC_len _) V.heap.size w3 (fun j v h => (B3 j v h).1)
  have Hl := hide hl
  have HB4 := hide hB4
  clear h3 h3b B3 hl hB4 HE2 HB2 HK2 Hhp Hsz
  go_wp2
  apply HK4.out
  clear HK4
  apply wp_seq_k; intro K hK
  refine wp_region ?_
  refine wpOps_step _ rfl (by kernel_rfl) (wp_value (v := .agg (bkC (kbF kf kn)).toArray) (w' := w3) (exec_load Hl.out) ?_)
  refine wpOps_step _ rfl (by kernel_rfl) (wp_skip (w' := putL w.heap.size 0 (bkC (kbF kf kn)) w3) ?_ ?_)
  · show ((do Instr.storeAt 55 (.pointer (some ⟨w.heap.size, 0, none⟩)) (.agg (bkC (kbF kf kn)).toArray); pure .skip : Sem Next)).run Try.prog w3 = _
    rw [Sem.run_bind, run_storeB _ (bkC_len _) (bkC_one _) _ w3 (fun j hj => by rw [(HB4.out j _ (zero_at hj _)).1]; rfl) (fun j hj => (HB4.out j _ (zero_at hj _)).2)]
    rfl
  show K _ _
  apply hK
  clear hK K
  have B' := HB4.out.put (bkC (kbF kf kn)) (by rw [bkC_len, List.length_replicate])
  have hE' := HE3.out.putL (Nat.le_refl _) (bkC (kbF kf kn))
  generalize putL w.heap.size 0 (bkC (kbF kf kn)) w3 = W at *
  refine wp_ret ?_
  refine bodyPost_ret (v := .agg (bkC (kbF kf kn)).toArray) ?_ rfl ⟨rfl, hE'⟩
  have hl2 := run_loadB _ (bkC_len _) w.heap.size W (fun j v h => (B' j v h).1)
  exact results_cell Try.results42 rfl hl2

set_option maxHeartbeats 3200000 in
set_option maxRecDepth 100000 in
theorem keyBlock_long (a : Option Addr) (b off n cap : Nat) (f : Nat → Int) (kn : Nat) (hkn : kn = 32) (w : World) (hs : BSeg w a b off n f) (hnl : 64 < n) (hn2 : n ≤ 20000) (hby : ∀ i, i < n → 0 ≤ f i ∧ f i < 256) :
    Calls Try.prog 42 #[.slice a n cap] w fun e w' => e = .returned (.agg (bkC (kbF (shaF f n) kn)).toArray) ∧ Ext w w' := by
  have n64 : (64 : Int) < (n : Int) := by omega
  have HSh : Hid (∀ w', Ext w w' → Calls Try.prog 13 #[.slice a n cap] w' fun e w'' => GivesR w' kn (shaF f n) e w'') := hide (fun w' he => by rw [hkn]; exact sha_yes a b off n cap f w' hn2 (hs.of_all he) hby)
  have hn : kn ≤ 64 := by omega
  obtain ⟨kf, hkf⟩ : ∃ kf : Nat → Int, shaF f n = kf := ⟨_, rfl⟩
  rw [hkf] at HSh
  rw [hkf]
  clear hkn hs hby hkf
  go_enter Try.func42, Try.ntmps42
  apply wp_seq_k; intro K hK
  refine wp_region ?_
  refine wpOps_step _ rfl (by kernel_rfl) (wp_value (v := .pointer (some ⟨w.heap.size, 0, none⟩)) (w' := w.alloc (.cells (List.replicate 64 (.int .u8 0)).toArray 55)) (by kernel_rfl) ?_)
  show K _ _
  apply hK
  clear hK K
  have B := Blk.alloc w (List.replicate 64 (.int .u8 0)) 55
  have hE := Ext.alloc w (.cells (List.replicate 64 (.int .u8 0)).toArray 55)
  have hlt : w.heap.size < (w.alloc (.cells (List.replicate 64 (.int .u8 0)).toArray 55)).heap.size := by simp
  generalize w.alloc (.cells (List.replicate 64 (.int .u8 0)).toArray 55) = V at *
  apply wp_seq_k; intro K1 hK1
  have HK1 := hide hK1
  clear hK1
  have HEa := hide hE
  have HBa := hide B
  have Hla := hide hlt
  clear hE B hlt
  go_wp2_with fail
  refine (HSh.out _ HEa.out).mono ?_
  rintro e V1 ⟨kv, rfl, hkO, h1⟩
  obtain ⟨ka, kg, kcap, rfl, -, -, -, hkB⟩ := owns_seg hkO
  have HE1 := hide (HEa.out.trans h1)
  have HB1 := hide (HBa.out.ext h1 Hla.out)
  have Hlt : Hid (w.heap.size < V1.heap.size) := hide (Nat.lt_of_lt_of_le Hla.out (Below.size h1))
  obtain ⟨koff, hko⟩ : ∃ koff, koff = 0 := ⟨_, rfl⟩
  have HKs : Hid (BSeg V1 ka kg koff kn kf) := hide (by rw [hko]; exact hkB.toBSeg)
  clear HSh hkO h1 hkB hko HEa HBa Hla
  go_wp2
  apply HK1.out
  clear HK1
  apply wp_seq_k; intro K hK
  refine wp_region ?_
  refine wpOps_step _ rfl (by kernel_rfl) (wp_value (v := .pointer (some ⟨V1.heap.size, 0, none⟩)) (w' := V1.alloc (.cells (List.replicate 64 (.int .u8 0)).toArray 55)) (by kernel_rfl) ?_)
  show K _ _
  apply hK
  clear hK K
  have HE2 := hide (HE1.out.trans (Ext.alloc V1 (.cells (List.replicate 64 (.int .u8 0)).toArray 55)))
  have HB2 := hide (HB1.out.ext (Ext.alloc V1 (.cells (List.replicate 64 (.int .u8 0)).toArray 55)) Hlt.out)
  have HK2 := hide (HKs.out.of_all (Ext.alloc V1 (.cells (List.replicate 64 (.int .u8 0)).toArray 55)))
  have Hhp : Hid ((V1.alloc (.cells (List.replicate 64 (.int .u8 0)).toArray 55)).heap[V1.heap.size]? = some (.cells (List.replicate 64 (.int .u8 0)).toArray 55 (0, 0))) := hide (heap_alloc_new V1 _)
  have Hsz : Hid ((V1.alloc (.cells (List.replicate 64 (.int .u8 0)).toArray 55)).heap.size = V1.heap.size + 1) := hide (World.size_alloc _ _)
  generalize V1.alloc (.cells (List.replicate 64 (.int .u8 0)).toArray 55) = V2 at *
  apply wp_seq_k; intro K4 hK4
  have HK4 := hide hK4
  clear hK4
  go_wp2_with (refine wpList_copy_splice rfl (.tmp 9) (.tmp 10) 22 22 rfl 5 Try.underlying22 Try.size5 (some ⟨V1.heap.size, 0, none⟩) ka 64 64 kn kcap rfl rfl V1.heap.size 0 (List.replicate 64 (.int .u8 0)) 55 Hhp.out (byts kf kn) ?c1 ?c2 ?c3 (byts_one kf kn) V1.heap.size V2 (Below.refl _ _) (Nat.le_refl _) ?_)
  case c1 => rw [byts_length]; exact (Nat.min_eq_left hn).symm
  case c2 =>
    intro hp
    rw [byts_length] at hp
    refine ⟨⟨kg, koff, none⟩, HK2.out.at' hp, fun j v hj => ?_⟩
    have hj' : j < kn := by have := (List.getElem?_eq_some_iff.1 hj).1; rwa [byts_length] at this
    rw [show (byts kf kn)[j]? = some (.int .u8 (kf j)) by simp [byts, hj']] at hj
    obtain rfl := Option.some.inj hj
    have e : Addr.add ⟨kg, koff, none⟩ j = ⟨kg, koff + j, none⟩ := by
      by_cases h0 : j = 0
      · subst h0; simp [Addr.add]
      · simp [Addr.add, h0]
    rw [e]
    exact HK2.out.cell j hj'
  case c3 => rw [byts_length, List.length_replicate]; omega
  intro w3 h3 h3b
  have B3 : Blk w3 V1.heap.size (bkC (kbF kf kn)) := blk_of_heap (by rw [← splice_bk kf hn]; exact h3.out)
  have hB4 : Blk w3 w.heap.size (List.replicate 64 (.int .u8 0)) := HB2.out.below h3b (by have := Hlt.out; omega)
  have HE3 : Hid (Ext w w3) := hide (Below.trans HE2.out (h3b.mono (Nat.le_trans (Below.size HE1.out) (Nat.le_refl _))))
  have hl := run_loadB _ (bkC_len _) V1.heap.size w3 (fun j v h => (B3 j v h).1)
  have Hl := hide hl
  have HB4 := hide hB4
  clear h3 h3b B3 hl hB4 HE2 HB2 HK2 Hhp Hsz
  go_wp2
  apply HK4.out
  clear HK4
  apply wp_seq_k; intro K hK
  refine wp_region ?_
  refine wpOps_step _ rfl (by kernel_rfl) (wp_value (v := .agg (bkC (kbF kf kn)).toArray) (w' := w3) (exec_load Hl.out) ?_)
  refine wpOps_step _ rfl (by kernel_rfl) (wp_skip (w' := putL w.heap.size 0 (bkC (kbF kf kn)) w3) ?_ ?_)
  · show ((do Instr.storeAt 55 (.pointer (some ⟨w.heap.size, 0, none⟩)) (.agg (bkC (kbF kf kn)).toArray); pure .skip : Sem Next)).run Try.prog w3 = _
    rw [Sem.run_bind, run_storeB _ (bkC_len _) (bkC_one _) _ w3 (fun j hj => by rw [(HB4.out j _ (zero_at hj _)).1]; rfl) (fun j hj => (HB4.out j _ (zero_at hj _)).2)]
    rfl
  show K _ _
  apply hK
  clear hK K
  have B' := HB4.out.put (bkC (kbF kf kn)) (by rw [bkC_len, List.length_replicate])
  have hE' := HE3.out.putL (Nat.le_refl _) (bkC (kbF kf kn))
  generalize putL w.heap.size 0 (bkC (kbF kf kn)) w3 = W at *
  refine wp_ret ?_
  refine bodyPost_ret (v := .agg (bkC (kbF kf kn)).toArray) ?_ rfl ⟨rfl, hE'⟩
  have hl2 := run_loadB _ (bkC_len _) w.heap.size W (fun j v h => (B' j v h).1)
  exact results_cell Try.results42 rfl hl2

end Go.Proofs.Ytjkojofpkeglpab
