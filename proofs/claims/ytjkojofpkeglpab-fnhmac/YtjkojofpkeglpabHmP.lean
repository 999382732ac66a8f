/- Walks: the keys of Hmac: the model's l5Pad, the program's marked and keyBlock. -/
import Derived.Test.YtjkojofpkeglpabShaE
import Derived.Laws.CopyOwn
namespace Go.Proofs.Ytjkojofpkeglpab
set_option linter.unusedVariables false
set_option linter.unusedSimpArgs false
open Go.RowKit

/-- A key with bytes 0 behind it. -/
def kbF (kf : Nat → Int) (kn : Nat) (i : Nat) : Int := if i < kn then kf i else 0
/-- The same, each with a byte. -/
def padB (kf : Nat → Int) (kn : Nat) (y : Int) (i : Nat) : Int := bits .xor .u8 (kbF kf kn i) y

theorem owns_of_row {w : World} {S : Nat} {F : Nat → Int} (base : Nat) (h : w.rowIs S 5 64 (fun j => .int .u8 (F j))) (hb : base ≤ S) : w.ownsRow base 5 1 (.slice (some ⟨S, 0, none⟩) 64 64) 64 (byts F 64) := by
  obtain ⟨c, hh, hs, hc⟩ := h
  refine ⟨by rw [byts_length], .inr ⟨S, 64, c, rfl, hb, hh, by omega, by unfold maxLen; omega, by omega, ?_⟩⟩
  refine List.ext_getElem? (fun i => ?_)
  rw [List.getElem?_take]
  by_cases hi : i < 64
  · rw [if_pos (by omega)]
    have := hc i hi
    rw [show (byts F 64)[i]? = some (.int .u8 (F i)) by simp [byts, hi]]
    simpa using this
  · rw [if_neg (by omega)]
    simp [byts, hi]

set_option maxHeartbeats 3200000 in
set_option maxRecDepth 100000 in
theorem l5Pad_short (ka : Option Addr) (kg koff kn kcap : Nat) (kf : Nat → Int) (y : Int) (w : World) (hs : BSeg w ka kg koff kn kf) (hn : kn ≤ 64) :
    Calls Try.prog 46 #[.slice ka kn kcap, .int .u8 y] w fun e w' => GivesR w 64 (padB kf kn y) e w' := by
  have n64 : ¬ (64 : Int) < (kn : Int) := by omega
  obtain ⟨w1, hw1⟩ : ∃ w1, w1 = w := ⟨_, rfl⟩
  have HE1 : Hid (Ext w w1) := hide (by rw [hw1]; exact Ext.refl _)
  have HKs : Hid (BSeg w1 ka kg koff kn kf) := hide (by rw [hw1]; exact hs)
  clear hs
  suffices h : Calls Try.prog 46 #[.slice ka kn kcap, .int .u8 y] w1 fun e w' => GivesR w 64 (padB kf kn y) e w' by rw [hw1] at h; exact h
  clear hw1
  · go_enter Try.func46, Try.ntmps46
    obtain ⟨o, ho⟩ : ∃ o : Obj, o = .cells (madeCells #[.int .u8 0] 64) 5 := ⟨_, rfl⟩
    have hmk : ∀ w : World, (Instr.makeSlice 22 (.int .i64 64) (.int .i64 64)).run Try.prog w = .ok (.slice (some ⟨w.heap.size, 0, none⟩) 64 64) (w.alloc o) := fun w => by rw [ho]; kernel_rfl
    have HR0 : Hid ((w1.alloc o).rowIs w1.heap.size 5 64 (fun j => .int .u8 (if j < 0 then kf j else 0)) ∧ Ext w (w1.alloc o)) := hide ⟨by rw [ho]; exact (World.rowIs_made w1 (.int .u8 0) 64 5).congr (fun j _ => by simp), HE1.out.trans (Ext.alloc _ _)⟩
    have HK1 := hide (HKs.out.of_all (Ext.alloc w1 o))
    have Hkw : Hid (0 < kn → kg < w1.heap.size) := hide (fun h => HKs.out.lt h)
    have HSw := hide (Below.size HE1.out)
    clear ho
    go_wp2
    rename_i K hK
    have HKK := hide hK
    clear hK hmk
    generalize w1.heap.size = S at *
    go_loopw [6] (fun i wr => ∃ t : Nat, t ≤ kn ∧ i = .int .i64 t ∧ (wr.rowIs S 5 64 (fun j => .int .u8 (if j < t then kf j else 0)) ∧ Ext w wr) ∧ BSeg wr ka kg koff kn kf) (fun i _ => kn - (intOf i).toNat)
    case atStart => exact ⟨0, by omega, rfl, HR0.out, HK1.out⟩
    case round =>
      clear HR0 HK1
      obtain ⟨t, ht, rfl, ⟨hR, hE⟩, hK⟩ := hrel
      by_cases hlt : t < kn
      · obtain rfl := hK.at' (by omega)
        have hc := hK.cell t hlt
        have hd := hR.cell (show t < 64 by omega)
        have hf := hR.frozen t
        have t64 : (t : Int) < 64 := by omega
        have tk : (t : Int) < kn := by omega
        have HRw := hide hR
        have HEw := hide hE
        have HKw := hide hK
        obtain ⟨y, hy⟩ : ∃ y, kf t = y := ⟨_, rfl⟩
        rw [hy] at hc
        clear hR hE hK
        go_wp2
        go_roundw
        case rel =>
          refine ⟨t + 1, by omega, by go_num, ⟨(HRw.out.set t (.int .u8 y)).congr (fun j hj => ?_), Below.setCell (p := ⟨S, t, none⟩) HEw.out HSw.out _⟩, ⟨fun _ => rfl, fun i hi => ?_⟩⟩
          · by_cases e : j = t
            · rw [if_pos e, if_pos (by omega), e, hy]
            · rw [if_neg e]
              by_cases e2 : j < t
              · rw [if_pos e2, if_pos (by omega)]
              · rw [if_neg e2, if_neg (by omega)]
          · rw [World.cell?_setCell_other _ _ _ _ (fun q => by have := congrArg Addr.block q; simp at this; have := Hkw.out (by omega); omega)]
            exact HKw.out.cell i hi
        case measure => simp [intOf]; omega
      · have e : t = kn := by omega
        subst e
        have HR0 : Hid (wr.rowIs S 5 64 (fun j => .int .u8 (if j < 0 then padB kf t y j else kbF kf t j)) ∧ Ext w wr) := hide ⟨hR.congr (fun j _ => by simp [kbF]), hE⟩
        clear hR hE hK
        go_wp2
        apply HKK.out
        clear HKK
        go_wp2
        rename_i K hK
        have HKK := hide hK
        clear hK
        go_loopw [7] (fun i wr => ∃ q : Nat, q ≤ 64 ∧ i = .int .i64 q ∧ (wr.rowIs S 5 64 (fun j => .int .u8 (if j < q then padB kf t y j else kbF kf t j)) ∧ Ext w wr)) (fun i _ => 64 - (intOf i).toNat)
        case atStart => exact ⟨0, by omega, rfl, HR0.out⟩
        case round =>
        clear HR0
        obtain ⟨q, hq, rfl, hR, hE⟩ := hrel
        by_cases hlt : q < 64
        · have hd := hR.cell hlt
          have hf := hR.frozen q
          have q64 : (q : Int) < 64 := by omega
          obtain ⟨x, hx⟩ : ∃ x, kbF kf t q = x := ⟨_, rfl⟩
          replace hd : wr.cell? ⟨S, q, none⟩ = some (.int .u8 x) := by rw [hd, ← hx]; simp
          have Hpx : Hid (padB kf t y q = bits .xor .u8 x y) := hide (by unfold padB; rw [hx])
          have HRw := hide hR
          have HEw := hide hE
          clear hR hE
          go_wp2
          go_roundw
          case rel =>
            refine ⟨q + 1, by omega, by go_num, (HRw.out.set q (.int .u8 (bits .xor .u8 x y))).congr (fun j hj => ?_), Below.setCell (p := ⟨S, q, none⟩) HEw.out HSw.out _⟩
            by_cases e : j = q
            · rw [if_pos e, if_pos (by omega), e, Hpx.out]
            · rw [if_neg e]
              by_cases e2 : j < q
              · rw [if_pos e2, if_pos (by omega)]
              · rw [if_neg e2, if_neg (by omega)]
          case measure => simp [intOf]; omega
        · have e : q = 64 := by omega
          subst e
          have HRw : Hid (wr.rowIs S 5 64 (fun j => .int .u8 (padB kf t y j))) := hide (hR.congr (fun j hj => by rw [if_pos hj]))
          have HEw := hide hE
          clear hR hE
          go_wp2
          apply HKK.out
          clear HKK
          go_wp2
          go_ret
          exact ⟨_, rfl, owns_of_row w.heap.size HRw.out HSw.out, HEw.out⟩

set_option maxHeartbeats 3200000 in
set_option maxRecDepth 100000 in
theorem l5Pad_long (a : Option Addr) (b off n cap : Nat) (f : Nat → Int) (kn : Nat) (hkn : kn = 32) (y : Int) (w : World) (hs : BSeg w a b off n f) (hn : 64 < n) (hn2 : n ≤ 20000) (hby : ∀ i, i < n → 0 ≤ f i ∧ f i < 256) :
    Calls Try.prog 46 #[.slice a n cap, .int .u8 y] w fun e w' => GivesR w 64 (padB (shaF f n) kn y) e w' := by
  have n64 : (64 : Int) < (n : Int) := by omega
  have HSh : Hid (Calls Try.prog 45 #[.slice a n cap] w fun e w' => GivesR w kn (shaF f n) e w') := hide (by rw [hkn]; exact specSha_yes a b off n cap f w hn2 hs hby)
  have hkl : kn ≤ 64 := by omega
  obtain ⟨kf, hkf⟩ : ∃ kf : Nat → Int, shaF f n = kf := ⟨_, rfl⟩
  rw [hkf] at HSh
  rw [hkf]
  clear hkn hs hby hkf
  · go_enter Try.func46, Try.ntmps46
    go_wp2_with fail
    refine HSh.out.mono ?_
    rintro e w1 ⟨kv, rfl, hkO, h1⟩
    obtain ⟨ka, kg, kcap, rfl, -, -, -, hkB⟩ := owns_seg hkO
    have HE1 := hide h1
    obtain ⟨koff, hko⟩ : ∃ koff, koff = 0 := ⟨_, rfl⟩
    have HKs : Hid (BSeg w1 ka kg koff kn kf) := hide (by rw [hko]; exact hkB.toBSeg)
    clear HSh hkO h1 hkB hko
    obtain ⟨o, ho⟩ : ∃ o : Obj, o = .cells (madeCells #[.int .u8 0] 64) 5 := ⟨_, rfl⟩
    have hmk : ∀ w : World, (Instr.makeSlice 22 (.int .i64 64) (.int .i64 64)).run Try.prog w = .ok (.slice (some ⟨w.heap.size, 0, none⟩) 64 64) (w.alloc o) := fun w => by rw [ho]; kernel_rfl
    have HR0 : Hid ((w1.alloc o).rowIs w1.heap.size 5 64 (fun j => .int .u8 (if j < 0 then kf j else 0)) ∧ Ext w (w1.alloc o)) := hide ⟨by rw [ho]; exact (World.rowIs_made w1 (.int .u8 0) 64 5).congr (fun j _ => by simp), HE1.out.trans (Ext.alloc _ _)⟩
    have HK1 := hide (HKs.out.of_all (Ext.alloc w1 o))
    have Hkw : Hid (0 < kn → kg < w1.heap.size) := hide (fun h => HKs.out.lt h)
    have HSw := hide (Below.size HE1.out)
    clear ho
    go_wp2
    rename_i K hK
    have HKK := hide hK
    clear hK hmk
    generalize w1.heap.size = S at *
    go_loopw [6] (fun i wr => ∃ t : Nat, t ≤ kn ∧ i = .int .i64 t ∧ (wr.rowIs S 5 64 (fun j => .int .u8 (if j < t then kf j else 0)) ∧ Ext w wr) ∧ BSeg wr ka kg koff kn kf) (fun i _ => kn - (intOf i).toNat)
    case atStart => exact ⟨0, by omega, rfl, HR0.out, HK1.out⟩
    case round =>
      clear HR0 HK1
      obtain ⟨t, ht, rfl, ⟨hR, hE⟩, hK⟩ := hrel
      by_cases hlt : t < kn
      · obtain rfl := hK.at' (by omega)
        have hc := hK.cell t hlt
        have hd := hR.cell (show t < 64 by omega)
        have hf := hR.frozen t
        have t64 : (t : Int) < 64 := by omega
        have tk : (t : Int) < kn := by omega
        have HRw := hide hR
        have HEw := hide hE
        have HKw := hide hK
        obtain ⟨y, hy⟩ : ∃ y, kf t = y := ⟨_, rfl⟩
        rw [hy] at hc
        clear hR hE hK
        go_wp2
        go_roundw
        case rel =>
          refine ⟨t + 1, by omega, by go_num, ⟨(HRw.out.set t (.int .u8 y)).congr (fun j hj => ?_), Below.setCell (p := ⟨S, t, none⟩) HEw.out HSw.out _⟩, ⟨fun _ => rfl, fun i hi => ?_⟩⟩
          · by_cases e : j = t
            · rw [if_pos e, if_pos (by omega), e, hy]
            · rw [if_neg e]
              by_cases e2 : j < t
              · rw [if_pos e2, if_pos (by omega)]
              · rw [if_neg e2, if_neg (by omega)]
          · rw [World.cell?_setCell_other _ _ _ _ (fun q => by have := congrArg Addr.block q; simp at this; have := Hkw.out (by omega); omega)]
            exact HKw.out.cell i hi
        case measure => simp [intOf]; omega
      · have e : t = kn := by omega
        subst e
        have HR0 : Hid (wr.rowIs S 5 64 (fun j => .int .u8 (if j < 0 then padB kf t y j else kbF kf t j)) ∧ Ext w wr) := hide ⟨hR.congr (fun j _ => by simp [kbF]), hE⟩
        clear hR hE hK
        go_wp2
        apply HKK.out
        clear HKK
        go_wp2
        rename_i K hK
        have HKK := hide hK
        clear hK
        go_loopw [7] (fun i wr => ∃ q : Nat, q ≤ 64 ∧ i = .int .i64 q ∧ (wr.rowIs S 5 64 (fun j => .int .u8 (if j < q then padB kf t y j else kbF kf t j)) ∧ Ext w wr)) (fun i _ => 64 - (intOf i).toNat)
        case atStart => exact ⟨0, by omega, rfl, HR0.out⟩
        case round =>
        clear HR0
        obtain ⟨q, hq, rfl, hR, hE⟩ := hrel
        by_cases hlt : q < 64
        · have hd := hR.cell hlt
          have hf := hR.frozen q
          have q64 : (q : Int) < 64 := by omega
          obtain ⟨x, hx⟩ : ∃ x, kbF kf t q = x := ⟨_, rfl⟩
          replace hd : wr.cell? ⟨S, q, none⟩ = some (.int .u8 x) := by rw [hd, ← hx]; simp
          have Hpx : Hid (padB kf t y q = bits .xor .u8 x y) := hide (by unfold padB; rw [hx])
          have HRw := hide hR
          have HEw := hide hE
          clear hR hE
          go_wp2
          go_roundw
          case rel =>
            refine ⟨q + 1, by omega, by go_num, (HRw.out.set q (.int .u8 (bits .xor .u8 x y))).congr (fun j hj => ?_), Below.setCell (p := ⟨S, q, none⟩) HEw.out HSw.out _⟩
            by_cases e : j = q
            · rw [if_pos e, if_pos (by omega), e, Hpx.out]
            · rw [if_neg e]
              by_cases e2 : j < q
              · rw [if_pos e2, if_pos (by omega)]
              · rw [if_neg e2, if_neg (by omega)]
          case measure => simp [intOf]; omega
        · have e : q = 64 := by omega
          subst e
          have HRw : Hid (wr.rowIs S 5 64 (fun j => .int .u8 (padB kf t y j))) := hide (hR.congr (fun j hj => by rw [if_pos hj]))
          have HEw := hide hE
          clear hR hE
          go_wp2
          apply HKK.out
          clear HKK
          go_wp2
          go_ret
          exact ⟨_, rfl, owns_of_row w.heap.size HRw.out HSw.out, HEw.out⟩

/-- 64 bytes, as cells. -/
def bkC (F : Nat → Int) : List Value := (List.range 64).map (fun i => .int .u8 (F i))
theorem bkC_len (F : Nat → Int) : (bkC F).length = 64 := by simp [bkC]
theorem bkC_at (F : Nat → Int) {t : Nat} (h : t < 64) : (bkC F)[t]? = some (.int .u8 (F t)) := by simp [bkC, h]
theorem bkC_one (F : Nat → Int) : ∀ v ∈ bkC F, v.oneCell' = true := by
  intro v h
  obtain ⟨x, -, rfl⟩ := List.mem_map.1 h
  rfl
theorem ixB (F : Nat → Int) (w : World) : ∀ t : Nat, t < 64 → (Instr.index 55 (.agg (bkC F).toArray) (.int .i64 (t : Int))).run Try.prog w = .ok (.int .u8 (F t)) w
  | 0, _ => by kernel_rfl
  | 1, _ => by kernel_rfl
  | 2, _ => by kernel_rfl
  | 3, _ => by kernel_rfl
  | 4, _ => by kernel_rfl
  | 5, _ => by kernel_rfl
  | 6, _ => by kernel_rfl
  | 7, _ => by kernel_rfl
  | 8, _ => by kernel_rfl
  | 9, _ => by kernel_rfl
  | 10, _ => by kernel_rfl
  | 11, _ => by kernel_rfl
  | 12, _ => by kernel_rfl
  | 13, _ => by kernel_rfl
  | 14, _ => by kernel_rfl
  | 15, _ => by kernel_rfl
  | 16, _ => by kernel_rfl
  | 17, _ => by kernel_rfl
  | 18, _ => by kernel_rfl
  | 19, _ => by kernel_rfl
  | 20, _ => by kernel_rfl
  | 21, _ => by kernel_rfl
  | 22, _ => by kernel_rfl
  | 23, _ => by kernel_rfl
  | 24, _ => by kernel_rfl
  | 25, _ => by kernel_rfl
  | 26, _ => by kernel_rfl
  | 27, _ => by kernel_rfl
  | 28, _ => by kernel_rfl
  | 29, _ => by kernel_rfl
  | 30, _ => by kernel_rfl
  | 31, _ => by kernel_rfl
  | 32, _ => by kernel_rfl
  | 33, _ => by kernel_rfl
  | 34, _ => by kernel_rfl
  | 35, _ => by kernel_rfl
  | 36, _ => by kernel_rfl
  | 37, _ => by kernel_rfl
  | 38, _ => by kernel_rfl
  | 39, _ => by kernel_rfl
  | 40, _ => by kernel_rfl
  | 41, _ => by kernel_rfl
  | 42, _ => by kernel_rfl
  | 43, _ => by kernel_rfl
  | 44, _ => by kernel_rfl
  | 45, _ => by kernel_rfl
  | 46, _ => by kernel_rfl
  | 47, _ => by kernel_rfl
  | 48, _ => by kernel_rfl
  | 49, _ => by kernel_rfl
  | 50, _ => by kernel_rfl
  | 51, _ => by kernel_rfl
  | 52, _ => by kernel_rfl
  | 53, _ => by kernel_rfl
  | 54, _ => by kernel_rfl
  | 55, _ => by kernel_rfl
  | 56, _ => by kernel_rfl
  | 57, _ => by kernel_rfl
  | 58, _ => by kernel_rfl
  | 59, _ => by kernel_rfl
  | 60, _ => by kernel_rfl
  | 61, _ => by kernel_rfl
  | 62, _ => by kernel_rfl
  | 63, _ => by kernel_rfl
  | t + 64, h => absurd h (by omega)
theorem run_loadB (cs : List Value) (hl : cs.length = 64) (b : Nat) (w : World) (hc : ∀ j v, cs[j]? = some v → w.cell? ⟨b, j, none⟩ = some v) :
    (loadVar 55 ⟨b, 0, none⟩).run Try.prog w = .ok (.agg cs.toArray) w := by
  have hs : (Go.sizeOf 55).run Try.prog w = .ok 64 w := by kernel_rfl
  have ha : (isAgg 55).run Try.prog w = .ok true w := by kernel_rfl
  have hld := run_loadCells_list (P := Try.prog) w ⟨b, 0, none⟩ cs (fun j v h => by
    have := hc j v h
    rwa [show (⟨b, 0, none⟩ : Addr).add j = ⟨b, j, none⟩ by unfold Addr.add; split <;> simp_all])
  rw [hl] at hld
  simp only [loadVar, Sem.run_bind, ha, Result.andThen_ok, if_true, hs, hld, Sem.run_pure]
theorem run_storeB (cs : List Value) (hl : cs.length = 64) (h1 : ∀ v ∈ cs, v.oneCell' = true) (b : Nat) (w : World) (hc : ∀ j, j < 64 → (w.cell? ⟨b, j, none⟩).isSome = true) (hf : ∀ j, j < 64 → w.frozen? ⟨b, j, none⟩ = false) :
    (Instr.storeAt 55 (.pointer (some ⟨b, 0, none⟩)) (.agg cs.toArray)).run Try.prog w = .ok () (putL b 0 cs w) := by
  have hs : (Go.sizeOf 55).run Try.prog w = .ok 64 w := by kernel_rfl
  have hst := run_storeCells_cells (P := Try.prog) b 0 cs 0 w (fun j hj => by simpa using hc j (by omega)) (fun j hj => by simpa using hf j (by omega)) h1
  simp only [Instr.storeAt, Instr.sureAddr, storeVar, Sem.run_bind, Sem.run_pure, Result.andThen_ok, hs, Value.cells]
  rw [setCells_putL] at hst
  simp [hl, hst]

set_option maxHeartbeats 3200000 in
set_option maxRecDepth 100000 in
theorem marked_any (F : Nat → Int) (y : Int) (w : World) : Calls Try.prog 44 #[.agg (bkC F).toArray, .int .u8 y] w fun e w' => GivesR w 64 (fun i => bits .xor .u8 (F i) y) e w' := by
  go_enter Try.func44, Try.ntmps44
  apply wp_seq_k; intro K hK
  refine wp_region ?_
  refine wpOps_step _ rfl (by kernel_rfl) (wp_value (v := .pointer (some ⟨w.heap.size, 0, none⟩)) (w' := w.alloc (.cells (bkC F).toArray 55)) (by kernel_rfl) ?_)
  refine wpOps_step _ rfl (by kernel_rfl) (wp_value (v := .slice none 0 0) (w' := w.alloc (.cells (bkC F).toArray 55)) (by kernel_rfl) ?_)
  show K _ _
  apply hK
  clear hK K
  have B := Blk.alloc w (bkC F) 55
  have hE := Ext.alloc w (.cells (bkC F).toArray 55)
  have hlt : w.heap.size < (w.alloc (.cells (bkC F).toArray 55)).heap.size := by simp
  generalize w.alloc (.cells (bkC F).toArray 55) = V at *
  apply wp_seq_k; intro K hK
  refine wp_region ?_
  refine wpOps_step _ rfl (by kernel_rfl) (wp_value (v := .slice (some ⟨V.heap.size, 0, none⟩) 64 64) (w' := V.alloc (.cells (madeCells #[.int .u8 0] 64) 5)) (by kernel_rfl) ?_)
  refine wpOps_step _ rfl (by kernel_rfl) (wp_value (v := .slice (some ⟨V.heap.size, 0, none⟩) 64 64) (w' := V.alloc (.cells (madeCells #[.int .u8 0] 64) 5)) (by kernel_rfl) ?_)
  show K _ _
  apply hK
  clear hK K
  have HR0 : Hid ((V.alloc (.cells (madeCells #[.int .u8 0] 64) 5)).rowIs V.heap.size 5 64 (fun j => .int .u8 (if j < 0 then bits .xor .u8 (F j) y else 0)) ∧ Ext w (V.alloc (.cells (madeCells #[.int .u8 0] 64) 5))) := hide ⟨(World.rowIs_made V (.int .u8 0) 64 5).congr (fun j _ => by simp), hE.trans (Ext.alloc _ _)⟩
  have B2 := B.ext (Ext.alloc V (.cells (madeCells #[.int .u8 0] 64) 5)) hlt
  have HSw := hide (Below.size hE)
  generalize V.alloc (.cells (madeCells #[.int .u8 0] 64) 5) = V2 at *
  have hl := run_loadB (bkC F) (bkC_len F) w.heap.size V2 (fun j v h => (B2 j v h).1)
  apply wp_seq_k; intro K1 hK1
  have HKK := hide hK1
  clear hK1
  apply wp_seq_k; intro K hK
  refine wp_region ?_
  refine wpOps_step _ rfl (by kernel_rfl) (wp_value (v := .agg (bkC F).toArray) (w' := V2) (exec_load hl) ?_)
  refine wpOps_step _ rfl (by kernel_rfl) (wp_value (v := .int .i64 0) (w' := V2) (by kernel_rfl) ?_)
  show K _ _
  apply hK
  clear hK K hl B B2 hE
  have HIX := hide (ixB F)
  generalize Value.agg (bkC F).toArray = Z at *
  generalize V.heap.size = S at *
  go_wp2
  go_loopw [10] (fun i wr => ∃ t : Nat, t ≤ 64 ∧ i = .int .i64 t ∧ (wr.rowIs S 5 64 (fun j => .int .u8 (if j < t then bits .xor .u8 (F j) y else 0)) ∧ Ext w wr)) (fun i _ => 64 - (intOf i).toNat)
  case atStart => exact ⟨0, by omega, rfl, HR0.out⟩
  case round =>
    clear HR0
    obtain ⟨t, ht, rfl, hR, hE⟩ := hrel
    by_cases hlt : t < 64
    · have hd := hR.cell hlt
      have hf := hR.frozen t
      have t64 : (t : Int) < 64 := by omega
      obtain ⟨x, hx⟩ : ∃ x, F t = x := ⟨_, rfl⟩
      have hix : ∀ w, (Instr.index 55 Z (.int .i64 (t : Int))).run Try.prog w = .ok (.int .u8 x) w := fun w => by rw [← hx]; exact HIX.out w t hlt
      have HRw := hide hR
      have HEw := hide hE
      have Hx := hide hx
      clear hR hE hx HIX
      go_wp2
      go_roundw
      case rel =>
        refine ⟨t + 1, by omega, by go_num, (HRw.out.set t (.int .u8 (bits .xor .u8 x y))).congr (fun j hj => ?_), Below.setCell (p := ⟨S, t, none⟩) HEw.out HSw.out _⟩
        by_cases e : j = t
        · rw [if_pos e, if_pos (by omega), e, Hx.out]
        · rw [if_neg e]
          by_cases e2 : j < t
          · rw [if_pos e2, if_pos (by omega)]
          · rw [if_neg e2, if_neg (by omega)]
      case measure => simp [intOf]; omega
    · have e : t = 64 := by omega
      subst e
      have HRw : Hid (wr.rowIs S 5 64 (fun j => .int .u8 (bits .xor .u8 (F j) y))) := hide (hR.congr (fun j hj => by rw [if_pos hj]))
      have HEw := hide hE
      clear hR hE
      go_wp2
      apply HKK.out
      clear HKK
      go_wp2
      go_ret
      exact ⟨_, rfl, owns_of_row w.heap.size HRw.out HSw.out, HEw.out⟩

end Go.Proofs.Ytjkojofpkeglpab
