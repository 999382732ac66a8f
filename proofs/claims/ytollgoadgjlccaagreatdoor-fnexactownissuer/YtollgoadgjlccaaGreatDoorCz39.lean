/- Walks: texts as names are compared, NameSame of both. Walks: parts of a text, labels, HostOk of both. -/
import Derived.Lib.SmallJoins
import Derived.Handy
import Derived.Test.YtollgoadgjlccaaGreatDoorCz03
import Derived.Test.YtollgoadgjlccaaGreatDoorCz37
import Derived.Test.YtollgoadgjlccaaGreatDoorCz38
import Derived.Test.YtollgoadgjlccaaGreatDoorCz02
import Derived.Test.YtollgoadgjlccaaGreatDoorCz29
namespace Go.Proofs.YtollgoadgjlccaaGreatDoor

section
set_option linter.unusedVariables false
set_option linter.unusedSimpArgs false

open Go.RowKit

theorem strOfNums_bys {w : World} {B : Nat} {v : Value} {L : List Int} (h : w.ownsRow B 5 1 v L.length (bys L)) : ∃ a g cap, v = .slice a L.length cap ∧ B ≤ g ∧ L.length ≤ cap ∧ cap ≤ 9223372036854775807 ∧ BOwn w a g 0 L.length (fun i => L.getD i 0) ∧ (convert 37 9 (.slice a L.length cap)).run Tryz.prog w = .ok (.string (strOfNums L)) w := by
  obtain ⟨a, g, cap, rfl, h1, h2, h3, h4⟩ := owns_seg (f := fun i => L.getD i 0) (by rw [← bys_byts]; exact h)
  refine ⟨a, g, cap, rfl, h1, h2, h3, h4, ?_⟩
  rw [conv_seg (cap := cap) h4.toBSeg, nums_list]

theorem row_slice {w : World} {B e n : Nat} {v : Value} {xs : List Value} (h : w.ownsRow B e 1 v n xs) : ∃ a cap, v = .slice a n cap := by
  rcases h.2 with ⟨rfl, rfl⟩ | ⟨g, cap, cur, rfl, _⟩
  · exact ⟨none, 0, rfl⟩
  · exact ⟨_, cap, rfl⟩

set_option maxHeartbeats 1600000 in
set_option maxRecDepth 100000 in
theorem l10Plain_any (s : ByteArray) (hs : s.size ≤ 1048576) (w : World) :
    Calls Tryz.prog 188 #[.string s] w fun e w' => e = .returned (.string (plainS s)) ∧ Ext w w' := by
  obtain ⟨i0, hi, hz0, hz1, hz2⟩ := info_parts Tryz.info5
  have HO := hide (World.ownsRow_made (base := w.heap.size) (e := 5) (size := 1) w #[] 0 (Nat.le_refl _) (by simp) rfl)
  have HLo : Hid (∀ t : ByteArray, t.size ≤ 2097152 → ∀ w, Calls Tryz.prog 245 #[.string t] w fun e w' => e = .returned (.string (strOfNums (nums (lowF t) t.size))) ∧ Ext w w') := fun t h w => specLower_any t h w
  have HP := hide (plain_low s)
  generalize plainS s = R at *
  go_enter Tryz.func188, Tryz.ntmps188
  go_wp2
  go_loopw [3, 4] (fun v i wr => ∃ k : Nat, k ≤ s.size ∧ i = .int .i64 k ∧ wr.ownsRow w.heap.size 5 1 v (plL s k).length (bys (plL s k)) ∧ Ext w wr) (fun _ i _ => s.size - (intOf i).toNat)
  case atStart => exact ⟨0, Nat.zero_le _, rfl, HO.out, Ext.alloc _ _⟩
  case round =>
    clear HO
    obtain ⟨k, hk, rfl, hO, hE⟩ := hrel
    have Hlen := hide (plL_len s k)
    obtain ⟨va, vc, rfl⟩ := row_slice hO
    have HO := hide hO
    have HE := hide hE
    clear hO hE
    by_cases hlt : k < s.size
    · have hb := bt_get s k hlt
      have h2 := bt_lt s k
      have hkn : (k : Int) < (s.size : Int) := by omega
      have HF : Hid (plL s (k + 1) = if bt s k = 32 then plL s k else if 0 < (plL s k).length ∧ bt s (k - 1) = 32 then plL s k ++ [32, (bt s k : Int)] else plL s k ++ [(bt s k : Int)]) := rfl
      have HL0 : Hid (0 < (plL s k).length → 0 < k) := fun h => by
        cases k with
        | zero => simp [plL] at h
        | succ k => omega
      generalize bt s k = c at *
      by_cases h32 : c = 32
      · subst h32
        have HN : Hid (wr.ownsRow w.heap.size 5 1 (.slice va (plL s k).length vc) (plL s (k + 1)).length (bys (plL s (k + 1)))) := by
          rw [HF.out, if_pos rfl]
          exact HO.out
        clear HF HL0 HO Hlen
        generalize (plL s k).length = n0 at *
        go_wp2
        go_roundw
        case rel => exact ⟨k + 1, by omega, by go_num, HN.out, HE.out⟩
        case measure => simp [intOf]; omega
      · have hne : ((c : Int) != 32) = true := by simp; omega
        have Hc := hide h32
        clear h32
        by_cases h0 : 0 < (plL s k).length
        · obtain ⟨q, rfl⟩ : ∃ q, k = q + 1 := ⟨k - 1, by have := HL0.out h0; omega⟩
          have hq := bt_get s q (by omega)
          have h3 := bt_lt s q
          have HF' : Hid (plL s (q + 1 + 1) = if bt s q = 32 then plL s (q + 1) ++ [32, (c : Int)] else plL s (q + 1) ++ [(c : Int)]) := by
            show _ = _
            rw [HF.out, if_neg Hc.out, Nat.add_sub_cancel]
            by_cases e : bt s q = 32
            · rw [if_pos ⟨h0, e⟩, if_pos e]
            · rw [if_neg (fun h => e h.2), if_neg e]
          have hqs : (q : Int) < (s.size : Int) := by omega
          have w1 : wrap64 (((q : Int) + 1) - 1) = q := by unfold wrap64; omega
          have HT0 := hide (rfl : plL s (q + 1 + 1) = plL s (q + 1 + 1))
          clear HF HL0
          generalize bt s q = d at *
          obtain ⟨T, hT⟩ : ∃ T, T = plL s (q + 1 + 1) := ⟨_, rfl⟩
          rw [← hT] at HF'
          have HTT := hide hT
          clear hT HT0
          generalize plL s (q + 1) = L at *
          obtain ⟨m, hm⟩ : ∃ m, L.length = m + 1 := ⟨L.length - 1, by omega⟩
          have Hm := hide hm
          have g0 : (0 : Int) < (m : Int) + 1 := by omega
          by_cases hd : d = 32
          · subst hd
            have hT := HF'.out
            rw [if_pos rfl] at hT
            have HT := hide hT
            clear hT HF'
            go_wp2_with (first | (at_builtin; refine wpList_append_own _ rfl _ _ 37 rfl w.heap.size 5 i0 (.int .u8 0) 1 1 Tryz.underlying37 hi hz0 hz1 hz2 rfl (by decide) _ _ _ rfl (HO.out.alloc _) ⟨wr.heap.size, 0, none⟩ 1 1 [.int .u8 32] rfl rfl (cell_one_new _ _ _) (bys_one _) (by have := Hlen.out; unfold maxLen; omega) (by have := Hlen.out; omega) (by have := Below.size HE.out; simp; omega) ?_; intro v1 w1 hown' hgrow hnil; have HN1 := hide (bys_step HO.out HE.out hown' hgrow); clear hown' hgrow hnil) | (at_builtin; refine wpList_append_own _ rfl _ _ 37 rfl w.heap.size 5 i0 (.int .u8 0) 1 1 Tryz.underlying37 hi hz0 hz1 hz2 rfl (by decide) _ _ _ rfl (HN1.out.1.alloc _) ⟨w1.heap.size, 0, none⟩ 1 1 [.int .u8 (c : Int)] rfl rfl (cell_one_new _ _ _) (bys_one _) (by have := Hlen.out; (try simp only [List.length_append, List.length_cons, List.length_nil]); unfold maxLen; omega) (by have := Hlen.out; (try simp only [List.length_append, List.length_cons, List.length_nil]); omega) (by have := Below.size HN1.out.2; simp; omega) ?_; intro v2 w2 hown' hgrow hnil; have HN2 := hide (bys_step HN1.out.1 HN1.out.2 hown' hgrow); clear hown' hgrow hnil))
            go_wp2
            go_roundw
            case rel => exact ⟨q + 1 + 1, by omega, by go_num, by rw [← HTT.out, HT.out]; simpa using HN2.out.1, HN2.out.2⟩
            case measure => simp [intOf]; omega
          · have hdn : ((d : Int) == 32) = false := by simp; omega
            have hT := HF'.out
            rw [if_neg hd] at hT
            have HT := hide hT
            clear hT HF'
            go_wp2_with (at_builtin; refine wpList_append_own _ rfl _ _ 37 rfl w.heap.size 5 i0 (.int .u8 0) 1 1 Tryz.underlying37 hi hz0 hz1 hz2 rfl (by decide) _ _ _ rfl (HO.out.alloc _) ⟨wr.heap.size, 0, none⟩ 1 1 [.int .u8 (c : Int)] rfl rfl (cell_one_new _ _ _) (bys_one _) (by have := Hlen.out; unfold maxLen; omega) (by have := Hlen.out; omega) (by have := Below.size HE.out; simp; omega) ?_; intro v2 w2 hown' hgrow hnil; have HN2 := hide (bys_step HO.out HE.out hown' hgrow); clear hown' hgrow hnil)
            go_wp2
            go_roundw
            case rel => exact ⟨q + 1 + 1, by omega, by go_num, by rw [← HTT.out, HT.out]; exact HN2.out.1, HN2.out.2⟩
            case measure => simp [intOf]; omega
        · have hT : plL s (k + 1) = plL s k ++ [(c : Int)] := by rw [HF.out, if_neg Hc.out, if_neg (fun h => h0 h.1)]
          obtain ⟨T, hT'⟩ : ∃ T, T = plL s (k + 1) := ⟨_, rfl⟩
          rw [← hT'] at hT
          have HTT := hide hT'
          have HT := hide hT
          clear hT hT' HF HL0
          generalize plL s k = L at *
          have hm : L.length = 0 := by omega
          go_wp2_with (at_builtin; refine wpList_append_own _ rfl _ _ 37 rfl w.heap.size 5 i0 (.int .u8 0) 1 1 Tryz.underlying37 hi hz0 hz1 hz2 rfl (by decide) _ _ _ rfl (HO.out.alloc _) ⟨wr.heap.size, 0, none⟩ 1 1 [.int .u8 (c : Int)] rfl rfl (cell_one_new _ _ _) (bys_one _) (by have := Hlen.out; unfold maxLen; omega) (by have := Hlen.out; omega) (by have := Below.size HE.out; simp; omega) ?_; intro v2 w2 hown' hgrow hnil; have HN2 := hide (bys_step HO.out HE.out hown' hgrow); clear hown' hgrow hnil)
          go_wp2
          go_roundw
          case rel => exact ⟨k + 1, by omega, by go_num, by rw [← HTT.out, HT.out]; exact HN2.out.1, HN2.out.2⟩
          case measure => simp [intOf]; omega
    · obtain rfl : k = s.size := by omega
      obtain ⟨a, g, cap, hv, -, -, -, -, hcv⟩ := strOfNums_bys HO.out
      simp only [Value.slice.injEq, true_and] at hv
      obtain ⟨rfl, rfl⟩ := hv
      have hz : (strOfNums (plL s s.size)).size ≤ 2097152 := by rw [strOfNums_size]; have := Hlen.out; omega
      generalize (plL s s.size).length = n0 at *
      generalize strOfNums (plL s s.size) = T at *
      go_wp2_with (go_at_call 245; refine (HLo.out T hz _).mono ?_; rintro e wq ⟨rfl, hEq⟩; have HEq := hide hEq; clear hEq)
      go_ret
      exact ⟨by rw [HP.out]; rfl, Ext.trans HE.out HEq.out⟩

theorem xrow_seg {w : World} {B : Nat} {v : Value} {L : List Int} (h : ownsX w B 5 v L.length (bys L)) : ∃ g cap, v = .slice (some ⟨g, 0, none⟩) L.length cap ∧ B ≤ g ∧ BSeg w (some ⟨g, 0, none⟩) g 0 L.length (fun i => L.getD i 0) ∧ (convert 37 9 (.slice (some ⟨g, 0, none⟩) L.length cap)).run Tryz.prog w = .ok (.string (strOfNums L)) w := by
  obtain ⟨g, cap, rfl, hb, -, -, hc⟩ := h.cells
  have hs : BSeg w (some ⟨g, 0, none⟩) g 0 L.length (fun i => L.getD i 0) := ⟨fun _ => rfl, fun i hi => by
    rw [Nat.zero_add]
    refine hc i _ ?_
    simp [bys, hi]⟩
  refine ⟨g, cap, rfl, hb, hs, ?_⟩
  rw [conv_seg (cap := cap) hs, nums_list]

theorem xrow_step {L : List Int} {w wr w1 : World} {v v' : Value} {o : Obj} {x : Int} (hO : ownsX wr w.heap.size 5 v L.length (bys L)) (hE : Ext w wr)
    (hown : ownsX w1 w.heap.size 5 v' (L.length + 1) (bys L ++ [.int .u8 x])) (hg : (wr.alloc o).grownBy w1 v.ownBlock) : ownsX w1 w.heap.size 5 v' (L ++ [x]).length (bys (L ++ [x])) ∧ Ext w w1 := by
  refine ⟨?_, (Below.alloc hE (Below.size hE) o).grown hg (by have := Below.size hE; simp; omega) (fun j hj => (hO.lt j hj).1)⟩
  simpa [bys] using hown

/-- A row that is not the one appended to stays. -/
theorem row_apart {w w1 : World} {K : Nat} {v v' : Value} {o ob : Obj} (hn : v.ownBlock ≠ some K) (hK : w.heap[K]? = some ob) (hg : (w.alloc o).grownBy w1 v.ownBlock) (hat : v'.ownBlock = v.ownBlock ∨ v'.ownBlock = some (w.alloc o).heap.size) : w1.heap[K]? = some ob ∧ v'.ownBlock ≠ some K := by
  have hlt : K < w.heap.size := (Array.getElem?_eq_some_iff.1 hK).1
  refine ⟨?_, ?_⟩
  · rw [hg.block K (by simp; omega) (fun e => hn e.symm), ← hK]
    exact Below.heap_alloc _ _ _ hlt
  · rcases hat with h | h
    · rw [h]; exact hn
    · rw [h]; simp; omega

theorem str_cells {w : World} {K cap i : Nat} {s : ByteArray} {x : Nat × Nat} (h : w.heap[K]? = some (.cells (bytesRow s cap) 5 x)) (hi : i < s.size) : w.cell? ⟨K, i, none⟩ = some (.int .u8 (bt s i)) := by
  simp only [World.cell?, h]
  have : (bytesRow s cap)[i]? = some (.int .u8 (bt s i)) := by
    unfold bytesRow
    rw [Array.getElem?_append_left (by simpa using hi)]
    rw [Array.getElem?_map, Array.getElem?_eq_getElem (by simpa using hi)]
    simp only [Option.map_some]
    rw [← bt_get s i hi]
    rfl
  simpa using this

theorem last_of {L : List Int} {m : Nat} (h : L.length = m + 1) : L.getLast? = some (L.getD m 0) := by
  rw [List.getLast?_eq_getElem?, h, Nat.add_sub_cancel, List.getElem?_eq_getElem (by omega)]
  simp [List.getD_eq_getElem?_getD, List.getElem?_eq_getElem (show m < L.length by omega)]

theorem low_byte (s : ByteArray) : ∀ x ∈ nums (lowF s) s.size, 0 ≤ x ∧ x < 256 := by
  intro x hx
  unfold nums at hx
  obtain ⟨i, -, rfl⟩ := List.mem_map.1 hx
  exact lowB_lt _ (bt_lt s i)

set_option maxHeartbeats 1600000 in
set_option maxRecDepth 100000 in
theorem plainText_any (s : ByteArray) (hs : s.size ≤ 1048576) (w : World) :
    Calls Tryz.prog 275 #[.string s] w fun e w' => e = .returned (.string (plainS s)) ∧ Ext w w' := by
  obtain ⟨i0, hi, hz0, hz1, hz2⟩ := info_parts Tryz.info5
  have hO0 : ownsX (w.alloc (.cells #[.int .u8 32] 5 (1, 1 + 1))) w.heap.size 5 (.slice (some ⟨w.heap.size, 0, none⟩) 1 1) 1 (bys [32]) := ⟨rfl, w.heap.size, 1, #[.int .u8 32], (1, 1 + 1), rfl, Nat.le_refl _, heap_alloc_new w _, .inr (Nat.le_refl _), Nat.le_refl _, by unfold maxLen; omega, rfl, rfl⟩
  have HO := hide hO0
  have HE0 : Hid (Ext w (w.alloc (.cells #[.int .u8 32] 5 (1, 1 + 1)))) := Ext.alloc _ _
  have HS0 : Hid (w.heap.size < (w.alloc (.cells #[.int .u8 32] 5 (1, 1 + 1))).heap.size) := by show _ < _; simp
  have hcc : (convert 37 37 (.slice (some ⟨w.heap.size, 0, none⟩) 1 1)).run Tryz.prog (w.alloc (.cells #[.int .u8 32] 5)) = .ok (.slice (some ⟨w.heap.size, 0, none⟩) 1 1) (w.alloc (.cells #[.int .u8 32] 5 (1, 1 + 1))) := by rw [Lib.run_convert_bytes_const w 37 5 #[.int .u8 32] 1 1 (by kernel_rfl) (by kernel_rfl)]; rfl
  generalize w.alloc (.cells #[.int .u8 32] 5 (1, 1 + 1)) = w0 at *
  have HLo : Hid (∀ w, Calls Tryz.prog 288 #[.string s] w fun e w' => e = .returned (.string (strOfNums (nums (lowF s) s.size))) ∧ Ext w w') := fun w => implLower_any s (by omega) w
  have HTr : Hid (∀ w, Calls Tryz.prog 289 #[.string (strOfNums (plQ s s.size)), .string ⟨#[32]⟩] w fun e w' => e = .returned (.string (plainS s)) ∧ Ext w w') := fun w => by
    have h1 := plQ_ne s s.size
    have h2 := plQ_len s s.size
    have := trim_any (strOfNums (plQ s s.size)) (by rw [strOfNums_size]; omega) (by rw [strOfNums_size]; omega) w
    rw [trim_plain] at this
    exact this
  have hTz : (strOfNums (nums (lowF s) s.size)).size = s.size := by rw [strOfNums_size]; simp [nums]
  have HTb : Hid (∀ i, i < s.size → (bt (strOfNums (nums (lowF s) s.size)) i : Int) = lowF s i) := fun i h => by
    rw [bt_of_nums _ (low_byte s) i (by simpa [nums] using h)]
    simp [nums]
  generalize strOfNums (nums (lowF s) s.size) = T at *
  generalize plainS s = R at *
  clear hO0
  go_enter Tryz.func275, Tryz.ntmps275
  go_wp2_with fail
  refine (HLo.out _).mono ?_
  rintro e w1 ⟨rfl, hE⟩
  have HO1 := hide (HO.out.keep (fun g hg => Below.block hE g (HO.out.lt g hg).2))
  have HS1 := hide (Nat.lt_of_lt_of_le HS0.out (Below.size hE))
  have HE1 := hide (Ext.trans HE0.out hE)
  clear hE HE0 HO HS0
  have hcv := run_bytes_of_string (P := Tryz.prog) w1 9 37 5 T (by kernel_rfl) (by kernel_rfl) (by kernel_rfl)
  have HKb : Hid ((w1.drew.alloc (.cells (bytesRow T (grownCap w1 T.size 0 5)) 5 ((bytesRow T (grownCap w1 T.size 0 5)).size, (bytesRow T (grownCap w1 T.size 0 5)).size + 1))).heap[w1.heap.size]? = some (.cells (bytesRow T (grownCap w1 T.size 0 5)) 5 ((bytesRow T (grownCap w1 T.size 0 5)).size, (bytesRow T (grownCap w1 T.size 0 5)).size + 1))) := heap_alloc_new w1.drew _
  have hE2 : Ext w1 (w1.drew.alloc (.cells (bytesRow T (grownCap w1 T.size 0 5)) 5 ((bytesRow T (grownCap w1 T.size 0 5)).size, (bytesRow T (grownCap w1 T.size 0 5)).size + 1))) := Ext.trans (b := w1.drew) ⟨rfl, rfl, rfl, Nat.le_refl _, fun _ _ => rfl⟩ (Ext.alloc _ _)
  have HO2 := hide (HO1.out.keep (fun g hg => Below.block hE2 g (HO1.out.lt g hg).2))
  have HE2 := hide (Ext.trans HE1.out hE2)
  clear hE2 HO1 HE1
  generalize w1.drew.alloc (.cells (bytesRow T (grownCap w1 T.size 0 5)) 5 ((bytesRow T (grownCap w1 T.size 0 5)).size, (bytesRow T (grownCap w1 T.size 0 5)).size + 1)) = w2 at *
  generalize grownCap w1 T.size 0 5 = cap at *
  generalize w1.heap.size = K at *
  go_wp2
  clear hcv
  go_loopw [3, 12] (fun v i wr => ∃ k : Nat, k ≤ s.size ∧ i = .int .i64 k ∧ ownsX wr w.heap.size 5 v (plQ s k).length (bys (plQ s k)) ∧ wr.heap[K]? = some (.cells (bytesRow T cap) 5 ((bytesRow T cap).size, (bytesRow T cap).size + 1)) ∧ v.ownBlock ≠ some K ∧ Ext w wr) (fun _ i _ => s.size - (intOf i).toNat)
  case atStart => exact ⟨0, Nat.zero_le _, rfl, HO2.out, HKb.out, by have := HS1.out; simp [Value.ownBlock]; omega, HE2.out⟩
  case round =>
    clear HO2 HKb HE2
    obtain ⟨k, hk, rfl, hO, hK, hKn, hE⟩ := hrel
    have Hlen := hide (plQ_len s k)
    obtain ⟨g, vc, rfl, -, hB, hcv⟩ := xrow_seg hO
    have HO := hide hO
    have HE := hide hE
    have HK := hide hK
    have HKn := hide hKn
    clear hKn
    by_cases hlt : k < s.size
    · have hkn : (k : Int) < (s.size : Int) := by omega
      have hc := str_cells hK (i := k) (by omega)
      rw [HTb.out k hlt] at hc
      have h2 := lowB_lt (bt s k) (bt_lt s k)
      have HF : Hid (plQ s (k + 1) = if lowF s k = 32 ∧ (plQ s k).getLast? = some 32 then plQ s k else plQ s k ++ [lowF s k]) := rfl
      rw [show lowB (bt s k) = lowF s k from rfl] at h2
      obtain ⟨m, hm⟩ : ∃ m, (plQ s k).length = m + 1 := ⟨(plQ s k).length - 1, by have := plQ_ne s k; omega⟩
      have hl := hB.cell m (by omega)
      simp only [Nat.zero_add] at hl
      have HLa := hide (last_of hm)
      obtain ⟨TT, hTT⟩ : ∃ TT, TT = plQ s (k + 1) := ⟨_, rfl⟩
      rw [← hTT] at HF
      have HTT := hide hTT
      clear hO hE hK hB hcv hTT
      generalize lowF s k = c at *
      generalize plQ s k = L at *
      have Hm := hide hm
      have hm2 : m < 4194304 := by have := Hlen.out; omega
      have w1' : wrap64 (((m : Int) + 1) - 1) = m := by unfold wrap64; omega
      generalize L.getD m 0 = d at *
      by_cases h32 : c = 32
      · subst h32
        by_cases hd : d = 32
        · subst hd
          have hT := HF.out
          rw [if_pos ⟨rfl, HLa.out⟩] at hT
          have HT := hide hT
          clear hT HF
          go_wp2
          go_roundw
          case rel => exact ⟨k + 1, by omega, by go_num, by rw [← HTT.out, HT.out, Hm.out]; rw [Hm.out] at HO; exact HO.out, HK.out, by rw [Hm.out] at HKn; exact HKn.out, HE.out⟩
          case measure => simp [intOf]; omega
        · have hdn : (d != 32) = true := by simp [hd]
          have hT := HF.out
          rw [if_neg (by rintro ⟨-, h⟩; rw [HLa.out] at h; simp at h; exact hd h)] at hT
          have HT := hide hT
          have Hd := hide hd
          clear hT HF hd
          go_wp2_with (at_builtin; refine wpList_append_x rfl _ _ 37 rfl w.heap.size 5 i0 (.int .u8 0) 1 Tryz.underlying37 hi hz0 hz1 hz2 rfl _ _ _ rfl (HO.out.alloc _) ⟨wr.heap.size, 0, none⟩ 1 1 [.int .u8 32] rfl rfl (cell_one_new _ _ _) (bys_one _) (by have := Hlen.out; unfold maxLen; omega) (by have := Hlen.out; omega) (by have := Below.size HE.out; simp; omega) ?_; intro v2 w2 hown' hgrow hat; have HN2 := hide (xrow_step HO.out HE.out hown' hgrow); have HK2 := hide (row_apart HKn.out HK.out hgrow hat); clear hown' hgrow hat)
          go_wp2
          go_roundw
          case rel => exact ⟨k + 1, by omega, by go_num, by rw [← HTT.out, HT.out]; exact HN2.out.1, HK2.out.1, HK2.out.2, HN2.out.2⟩
          case measure => simp [intOf]; omega
      · have hcn : (c != 32) = true := by simp [h32]
        have hT := HF.out
        rw [if_neg (fun h => h32 h.1)] at hT
        have HT := hide hT
        have Hc := hide h32
        clear hT HF h32
        go_wp2_with (at_builtin; refine wpList_append_x rfl _ _ 37 rfl w.heap.size 5 i0 (.int .u8 0) 1 Tryz.underlying37 hi hz0 hz1 hz2 rfl _ _ _ rfl (HO.out.alloc _) ⟨wr.heap.size, 0, none⟩ 1 1 [.int .u8 c] rfl rfl (cell_one_new _ _ _) (bys_one _) (by have := Hlen.out; unfold maxLen; omega) (by have := Hlen.out; omega) (by have := Below.size HE.out; simp; omega) ?_; intro v2 w2 hown' hgrow hat; have HN2 := hide (xrow_step HO.out HE.out hown' hgrow); have HK2 := hide (row_apart HKn.out HK.out hgrow hat); clear hown' hgrow hat)
        go_wp2
        go_roundw
        case rel => exact ⟨k + 1, by omega, by go_num, by rw [← HTT.out, HT.out]; exact HN2.out.1, HK2.out.1, HK2.out.2, HN2.out.2⟩
        case measure => simp [intOf]; omega
    · obtain rfl : k = s.size := by omega
      clear hO hE hK hB
      generalize (plQ s s.size).length = n0 at *
      generalize strOfNums (plQ s s.size) = TX at *
      go_wp2_with (go_at_call 289; refine (HTr.out _).mono ?_; rintro e wq ⟨rfl, hEq⟩; have HEq := hide hEq; clear hEq)
      go_ret
      exact ⟨rfl, Ext.trans HE.out HEq.out⟩

/-- Names are the same. -/
def samN (n : Nat) (f g : Nat → ByteArray) : Bool := decide (∀ i, i < n → plainS (f i) = plainS (g i))

def nameB (n m : Nat) (f g : Nat → ByteArray) : Bool := decide (n = m) && samN n f g

set_option maxHeartbeats 800000 in
theorem textSame_any (a b : ByteArray) (ha : a.size ≤ 1048576) (hb : b.size ≤ 1048576) (w : World) :
    Calls Tryz.prog 247 #[.string a, .string b] w fun e w' => e = .returned (.bool (eqS (plainS a) (plainS b))) ∧ Ext w w' := by
  have HA : Hid (∀ w, Calls Tryz.prog 275 #[.string a] w fun e w' => e = .returned (.string (plainS a)) ∧ Ext w w') := fun w => plainText_any a ha w
  have HB : Hid (∀ w, Calls Tryz.prog 275 #[.string b] w fun e w' => e = .returned (.string (plainS b)) ∧ Ext w w') := fun w => plainText_any b hb w
  generalize plainS a = A at *
  generalize plainS b = B at *
  go_enter Tryz.func247, Tryz.ntmps247
  go_wp2_with fail
  refine (HA.out _).mono ?_
  rintro e w1 ⟨rfl, hE1⟩
  have HE1 := hide hE1
  clear hE1
  go_wp2_with fail
  refine (HB.out _).mono ?_
  rintro e w2 ⟨rfl, hE2⟩
  have HE2 := hide hE2
  clear hE2
  go_wp2
  go_ret
  exact ⟨rfl, Ext.trans HE1.out HE2.out⟩

theorem samN_no {n k : Nat} {f g : Nat → ByteArray} (hk : k < n) (h : eqS (plainS (f k)) (plainS (g k)) = false) : samN n f g = false := by
  refine decide_eq_false (fun a => ?_)
  rw [a k hk, eqS_refl] at h
  cases h

theorem samN_yes {n : Nat} {f g : Nat → ByteArray} (h : ∀ i, i < n → eqS (plainS (f i)) (plainS (g i)) = true) : samN n f g = true := decide_eq_true (fun i hi => (eqS_iff _ _).1 (h i hi))

set_option maxHeartbeats 1600000 in
set_option maxRecDepth 100000 in
theorem equalFunc_any (a : Option Addr) (b off n cap : Nat) (f : Nat → ByteArray) (a2 : Option Addr) (b2 off2 m cap2 : Nat) (g : Nat → ByteArray) (w : World) (hs : SSeg w a b off n f) (hs2 : SSeg w a2 b2 off2 m g) (hn : n ≤ 1048576) (hm : m ≤ 1048576) (hf : ∀ i, i < n → (f i).size ≤ 1048576) (hg : ∀ i, i < m → (g i).size ≤ 1048576) :
    Calls Tryz.prog 246 #[.slice a n cap, .slice a2 m cap2, .func (.func 247) #[] #[]] w fun e w' => e = .returned (.bool (nameB n m f g)) ∧ Ext w w' := by
  by_cases hnm : n = m
  · subst hnm
    have HV : Hid (nameB n n f g = samN n f g) := by show _ = _; unfold nameB; simp
    rw [HV.out]
    have HSs : Hid (∀ i, i < n → ∀ w, Calls Tryz.prog 247 #[.string (f i), .string (g i)] w fun e w' => e = .returned (.bool (eqS (plainS (f i)) (plainS (g i)))) ∧ Ext w w') := fun i hi w => textSame_any _ _ (hf i hi) (hg i hi) w
    have Hs := hide hs
    have Hs2 := hide hs2
    obtain ⟨R, hR⟩ : ∃ R, R = samN n f g := ⟨_, rfl⟩
    rw [← hR]
    have HR := hide hR
    clear hs hs2 hf hg HV hR
    go_enter Tryz.func246, Tryz.ntmps246
    go_wp2
    go_loopw [17] (fun i wr => ∃ k : Nat, k ≤ n ∧ i = .int .i64 (k : Int) ∧ (∀ j, j < k → eqS (plainS (f j)) (plainS (g j)) = true) ∧ Ext w wr) (fun i _ => n - (intOf i).toNat)
    case atStart => exact ⟨0, Nat.zero_le _, rfl, fun j hj => absurd hj (Nat.not_lt_zero _), Ext.refl _⟩
    case round =>
      obtain ⟨k, hk, rfl, hd, hE⟩ := hrel
      have HD := hide hd
      have HE := hide hE
      by_cases hlt : k < n
      · obtain rfl := Hs.out.at' (by omega)
        obtain rfl := Hs2.out.at' (by omega)
        have c1 := (Hs.out.of_all hE).cell k hlt
        have c2 := (Hs2.out.of_all hE).cell k hlt
        have hkn : (k : Int) < (n : Int) := by omega
        have HX := hide (HSs.out k hlt)
        obtain ⟨q, hq⟩ : ∃ q, eqS (plainS (f k)) (plainS (g k)) = q := ⟨_, rfl⟩
        rw [hq] at HX
        have Hq := hide hq
        clear hd hE hq
        go_wp2_with fail
        refine (HX.out _).mono ?_
        rintro e w1 ⟨rfl, hE1⟩
        have HE1 := hide hE1
        clear hE1
        cases q
        · go_wp2
          go_ret
          exact ⟨ret_bool (by rw [HR.out, samN_no hlt Hq.out]), Ext.trans HE.out HE1.out⟩
        · go_wp2
          go_roundw
          case rel => exact ⟨k + 1, by omega, by go_num, fun j hj => by
                        by_cases e : j = k
                        · subst e; exact Hq.out
                        · exact HD.out j (by omega), Ext.trans HE.out HE1.out⟩
          case measure => simp [intOf]; omega
      · obtain rfl : k = n := by omega
        clear hd hE
        go_wp2
        go_ret
        exact ⟨ret_bool (by rw [HR.out, samN_yes HD.out]), HE.out⟩
  · have hne : ((n : Int) != (m : Int)) = true := by simp; omega
    have HV : Hid (nameB n m f g = false) := by show _ = _; unfold nameB; simp [hnm]
    rw [HV.out]
    go_enter Tryz.func246, Tryz.ntmps246
    go_wp2
    go_ret
    exact ⟨rfl, Ext.refl _⟩

set_option maxHeartbeats 800000 in
theorem implNameSame_any (a : Option Addr) (b off n cap : Nat) (f : Nat → ByteArray) (a2 : Option Addr) (b2 off2 m cap2 : Nat) (g : Nat → ByteArray) (w : World) (hs : SSeg w a b off n f) (hs2 : SSeg w a2 b2 off2 m g) (hn : n ≤ 1048576) (hm : m ≤ 1048576) (hf : ∀ i, i < n → (f i).size ≤ 1048576) (hg : ∀ i, i < m → (g i).size ≤ 1048576) :
    Calls Tryz.prog 189 #[.slice a n cap, .slice a2 m cap2] w fun e w' => e = .returned (.bool (nameB n m f g)) ∧ Ext w w' := by
  have HX := hide (equalFunc_any a b off n cap f a2 b2 off2 m cap2 g w hs hs2 hn hm hf hg)
  clear hs hs2 hf hg
  generalize nameB n m f g = R at *
  go_enter Tryz.func189, Tryz.ntmps189
  go_wp2_with fail
  refine HX.out.mono ?_
  rintro e w1 ⟨rfl, hE1⟩
  have HE1 := hide hE1
  clear hE1
  go_wp2
  go_ret
  exact ⟨rfl, HE1.out⟩

set_option maxHeartbeats 1600000 in
set_option maxRecDepth 100000 in
theorem specNameSame_any (a : Option Addr) (b off n cap : Nat) (f : Nat → ByteArray) (a2 : Option Addr) (b2 off2 m cap2 : Nat) (g : Nat → ByteArray) (w : World) (hs : SSeg w a b off n f) (hs2 : SSeg w a2 b2 off2 m g) (hn : n ≤ 1048576) (hm : m ≤ 1048576) (hf : ∀ i, i < n → (f i).size ≤ 1048576) (hg : ∀ i, i < m → (g i).size ≤ 1048576) :
    Calls Tryz.prog 130 #[.slice a n cap, .slice a2 m cap2] w fun e w' => e = .returned (.bool (nameB n m f g)) ∧ Ext w w' := by
  by_cases hnm : n = m
  · subst hnm
    have HV : Hid (nameB n n f g = samN n f g) := by show _ = _; unfold nameB; simp
    rw [HV.out]
    have HA : Hid (∀ i, i < n → ∀ w, Calls Tryz.prog 188 #[.string (f i)] w fun e w' => e = .returned (.string (plainS (f i))) ∧ Ext w w') := fun i hi w => l10Plain_any _ (hf i hi) w
    have HB : Hid (∀ i, i < n → ∀ w, Calls Tryz.prog 188 #[.string (g i)] w fun e w' => e = .returned (.string (plainS (g i))) ∧ Ext w w') := fun i hi w => l10Plain_any _ (hg i hi) w
    have Hs := hide hs
    have Hs2 := hide hs2
    obtain ⟨R, hR⟩ : ∃ R, R = samN n f g := ⟨_, rfl⟩
    rw [← hR]
    have HR := hide hR
    clear hs hs2 hf hg HV hR
    go_enter Tryz.func130, Tryz.ntmps130
    go_wp2
    go_loopw [5] (fun i wr => ∃ k : Nat, k ≤ n ∧ i = .int .i64 (k : Int) ∧ (∀ j, j < k → eqS (plainS (f j)) (plainS (g j)) = true) ∧ Ext w wr) (fun i _ => n - (intOf i).toNat)
    case atStart => exact ⟨0, Nat.zero_le _, rfl, fun j hj => absurd hj (Nat.not_lt_zero _), Ext.refl _⟩
    case round =>
      obtain ⟨k, hk, rfl, hd, hE⟩ := hrel
      have HD := hide hd
      have HE := hide hE
      by_cases hlt : k < n
      · obtain rfl := Hs.out.at' (by omega)
        obtain rfl := Hs2.out.at' (by omega)
        have c1 := (Hs.out.of_all hE).cell k hlt
        have c2 := (Hs2.out.of_all hE).cell k hlt
        have k1 := cell_regrown c1
        have k2 := cell_regrown c2
        have hkn : (k : Int) < (n : Int) := by omega
        have HX : Hid (∀ d os, Calls Tryz.prog 188 #[.string (f k)] (Sort.grow (redrawn wr d) os) fun e w'' => e = .returned (.string (plainS (f k))) ∧ ∃ p : Regrown, w'' = Sort.grow (redrawn wr p.d) p.os) := fun d os => Calls.regrown_of (HA.out k hlt _)
        have HY : Hid (∀ d os, Calls Tryz.prog 188 #[.string (g k)] (Sort.grow (redrawn wr d) os) fun e w'' => e = .returned (.string (plainS (g k))) ∧ ∃ p : Regrown, w'' = Sort.grow (redrawn wr p.d) p.os) := fun d os => Calls.regrown_of (HB.out k hlt _)
        obtain ⟨q, hq⟩ : ∃ q, eqS (plainS (f k)) (plainS (g k)) = q := ⟨_, rfl⟩
        have Hq := hide hq
        have hne : ((plainS (f k)).toList == (plainS (g k)).toList) = q := hq
        clear hd hE hq
        generalize plainS (f k) = A at HX hne
        generalize plainS (g k) = B at HY hne
        generalize f k = fk at HX c1 k1
        generalize g k = gk at HY c2 k2
        go_wp2_with fail
        refine wp_region_quiet_below (by kernel_rfl) (by kernel_rfl) ?_
        repeat (first | go_big_quiet_step (first | (go_at_call_of 188 (fk); exact HX.out _ _) | (go_at_call_of 188 (gk); exact HY.out _ _)) | quiet_step (first | (go_at_call_of 188 (fk); exact HX.out _ _) | (go_at_call_of 188 (gk); exact HY.out _ _)))
        refine wpQuiet_nil ?_
        intro _ hw'
        obtain ⟨⟨dq, osq⟩, hw''⟩ := hw'
        subst hw''
        have HE1 : Hid (Ext wr (Sort.grow (redrawn wr dq) osq)) := hide (below_regrown wr dq osq)
        cases q
        · go_wp2
          go_ret
          exact ⟨ret_bool (by rw [HR.out, samN_no hlt Hq.out]), Ext.trans HE.out HE1.out⟩
        · go_wp2
          go_roundw
          case rel => exact ⟨k + 1, by omega, by go_num, fun j hj => by
                        by_cases e : j = k
                        · subst e; exact Hq.out
                        · exact HD.out j (by omega), Ext.trans HE.out HE1.out⟩
          case measure => simp [intOf]; omega
      · obtain rfl : k = n := by omega
        clear hd hE
        go_wp2
        go_ret
        exact ⟨ret_bool (by rw [HR.out, samN_yes HD.out]), HE.out⟩
  · have hne : ((n : Int) == (m : Int)) = false := by simp; omega
    have HV : Hid (nameB n m f g = false) := by show _ = _; unfold nameB; simp [hnm]
    rw [HV.out]
    by_cases h0 : 0 < n
    · have g0 : (0 : Int) < (n : Int) := by omega
      go_enter Tryz.func130, Tryz.ntmps130
      go_wp2
      go_rounds 2
      go_ret
      exact ⟨rfl, Ext.refl _⟩
    · have g0 : ¬ (0 : Int) < (n : Int) := by omega
      go_enter Tryz.func130, Tryz.ntmps130
      go_wp2
      go_rounds 2
      go_ret
      exact ⟨rfl, Ext.refl _⟩
end

section
set_option linter.unusedVariables false
set_option linter.unusedSimpArgs false

open Go.RowKit

/-- The parts of s between bytes m, from place k on, the part under way beginning at fr. -/
def partsFrom (s : ByteArray) (m : Nat) : Nat → Nat → Nat → List ByteArray
  | 0, k, fr => [s.extract fr s.size]
  | n + 1, k, fr => if bt s k = m then s.extract fr k :: partsFrom s m n (k + 1) (k + 1) else partsFrom s m n (k + 1) fr

def parts (s : ByteArray) (m : Nat) : List ByteArray := partsFrom s m s.size 0 0

theorem partsFrom_ne (s : ByteArray) (m : Nat) : ∀ n k fr, 1 ≤ (partsFrom s m n k fr).length
  | 0, k, fr => by simp [partsFrom]
  | n + 1, k, fr => by
    unfold partsFrom
    split
    · simp
    · exact partsFrom_ne s m n _ _

theorem parts_ne (s : ByteArray) (m : Nat) : 1 ≤ (parts s m).length := partsFrom_ne s m _ _ _

theorem partsFrom_le (s : ByteArray) (m : Nat) : ∀ n k fr, (partsFrom s m n k fr).length ≤ n + 1
  | 0, k, fr => by simp [partsFrom]
  | n + 1, k, fr => by
    unfold partsFrom
    split
    · have := partsFrom_le s m n (k + 1) (k + 1); simp; omega
    · have := partsFrom_le s m n (k + 1) fr; omega

theorem parts_le (s : ByteArray) (m : Nat) : (parts s m).length ≤ s.size + 1 := partsFrom_le s m _ _ _

theorem partsFrom_skip (s : ByteArray) (m : Nat) (fr : Nat) : ∀ q n k, (∀ j, k ≤ j → j < k + q → bt s j ≠ m) → partsFrom s m (n + q) k fr = partsFrom s m n (k + q) fr
  | 0, n, k, _ => rfl
  | q + 1, n, k, h => by
    rw [← Nat.add_assoc, partsFrom, if_neg (h k (Nat.le_refl _) (by omega)), partsFrom_skip s m fr q n (k + 1) (fun j h1 h2 => h j (by omega) (by omega))]
    congr 1
    omega

/-- The list's i-th text. -/
def nth (L : List ByteArray) (i : Nat) : ByteArray := L.getD i ⟨#[]⟩

def strs (L : List ByteArray) : List Value := L.map .string

theorem strs_one (s : ByteArray) : ∀ u ∈ [Value.string s], u.oneCell' = true := by
  intro u hu
  simp at hu
  subst hu
  rfl

/-- A new list of strings, not empty. -/
def GivesL (w : World) (L : List ByteArray) (e : Ending) (w' : World) : Prop :=
  ∃ g cap, e = .returned (.slice (some ⟨g, 0, none⟩) L.length cap) ∧ (∀ i, i < L.length → w'.cell? ⟨g, i, none⟩ = some (.string (nth L i))) ∧ Ext w w'

theorem owns_strs {w : World} {B : Nat} {v : Value} {L : List ByteArray} (h : w.ownsRow B 9 1 v L.length (strs L)) (hL : 1 ≤ L.length) :
    ∃ g cap, v = .slice (some ⟨g, 0, none⟩) L.length cap ∧ ∀ i, i < L.length → w.cell? ⟨g, i, none⟩ = some (.string (nth L i)) := by
  rcases h.2 with ⟨rfl, h0⟩ | ⟨g, cap, cur, rfl, hg, hb, hn, hm, hs, ht⟩
  · omega
  · refine ⟨g, cap, rfl, fun i hi => ?_⟩
    have hx : (cur.toList.take (L.length * 1))[i]? = some (.string (nth L i)) := by rw [ht]; simp [strs, nth, hi]
    rw [List.getElem?_take] at hx
    simp only [Nat.mul_one, hi, if_true] at hx
    simp [World.cell?, hb]
    simpa using hx

theorem strs_step {acc : List ByteArray} {w wr w1 : World} {v v' : Value} {o : Obj} {x : ByteArray} (hO : wr.ownsRow w.heap.size 9 1 v acc.length (strs acc)) (hE : Ext w wr)
    (hown : w1.ownsRow w.heap.size 9 1 v' (acc.length + 1) (strs acc ++ [.string x])) (hg : (wr.alloc o).grownBy w1 v.ownBlock) : w1.ownsRow w.heap.size 9 1 v' (acc ++ [x]).length (strs (acc ++ [x])) ∧ Ext w w1 := by
  refine ⟨?_, (Below.alloc hE (Below.size hE) o).grown hg (by have := Below.size hE; simp; omega) (fun j hj => (hO.lt j hj).1)⟩
  simpa [strs] using hown

set_option maxHeartbeats 1600000 in
set_option maxRecDepth 100000 in
theorem l8Parts_any (s : ByteArray) (m : Nat) (hs : s.size ≤ 1048576) (hm : m < 256) (w : World) :
    Calls Tryz.prog 198 #[.string s, .int .u8 (m : Int)] w fun e w' => GivesL w (parts s m) e w' := by
  obtain ⟨i0, hi, hz0, hz1, hz2⟩ := info_parts Tryz.infoS
  have HO := hide (World.ownsRow_made (base := w.heap.size) (e := 9) (size := 1) w #[] 0 (Nat.le_refl _) (by simp) rfl)
  go_enter Tryz.func198, Tryz.ntmps198
  go_wp2
  go_loopw [5, 6, 7] (fun v f i wr => ∃ k fr : Nat, k ≤ s.size ∧ fr ≤ k ∧ i = .int .i64 k ∧ f = .int .i64 fr ∧ ∃ acc : List ByteArray, acc.length ≤ k ∧ wr.ownsRow w.heap.size 9 1 v acc.length (strs acc) ∧ Ext w wr ∧ acc ++ partsFrom s m (s.size - k) k fr = parts s m) (fun _ _ i _ => s.size - (intOf i).toNat)
  case atStart => exact ⟨0, 0, Nat.zero_le _, Nat.le_refl _, rfl, rfl, [], Nat.le_refl _, HO.out, Ext.alloc _ _, rfl⟩
  case round =>
    clear HO
    obtain ⟨k, fr, hk, hfk, rfl, rfl, acc, hal, hO, hE, hP⟩ := hrel
    have HO := hide hO
    have HE := hide hE
    have HP := hide hP
    have Hal := hide hal
    have Hfk := hide hfk
    clear hO hE hP hal hfk
    by_cases hlt : k < s.size
    · have hb := bt_get s k hlt
      have h2 := bt_lt s k
      have hkn : (k : Int) < (s.size : Int) := by omega
      have hkn' : (k : Int) ≤ (s.size : Int) := by omega
      have hfk' : (fr : Int) ≤ (k : Int) := by have := Hfk.out; omega
      have HF : Hid (partsFrom s m (s.size - k) k fr = if bt s k = m then s.extract fr k :: partsFrom s m (s.size - (k + 1)) (k + 1) (k + 1) else partsFrom s m (s.size - (k + 1)) (k + 1) fr) := by
        show _ = _
        rw [show s.size - k = (s.size - (k + 1)) + 1 by omega, partsFrom]
      generalize bt s k = c at *
      by_cases he : c = m
      · subst he
        have HX : Hid ((acc ++ [s.extract fr k]) ++ partsFrom s c (s.size - (k + 1)) (k + 1) (k + 1) = parts s c) := by
          show _ = _
          rw [← HP.out, HF.out, if_pos rfl]
          simp
        go_wp2_with (at_builtin; refine wpList_append_own _ rfl _ _ 22 rfl w.heap.size 9 i0 (.string ⟨#[]⟩) 1 16 Tryz.underlying22 hi hz0 hz1 hz2 rfl (by decide) _ _ _ rfl (HO.out.alloc _) ⟨wr.heap.size, 0, none⟩ 1 1 [.string (s.extract fr k)] rfl rfl (cell_one_new _ _ _) (strs_one _) (by have := Hal.out; unfold maxLen; omega) (by have := Hal.out; omega) (by have := Below.size HE.out; simp; omega) ?_; intro v' w1 hown' hgrow hnil)
        have HN := hide (strs_step HO.out HE.out hown' hgrow)
        clear hown' hgrow hnil
        go_wp2
        go_roundw
        case rel => exact ⟨k + 1, k + 1, by omega, Nat.le_refl _, by go_num, by go_num, acc ++ [s.extract fr k], by have := Hal.out; simp; omega, HN.out.1, HN.out.2, HX.out⟩
        case measure => simp [intOf]; omega
      · have hne : ((c : Int) == (m : Int)) = false := by simp; omega
        have HX : Hid (acc ++ partsFrom s m (s.size - (k + 1)) (k + 1) fr = parts s m) := by
          show _ = _
          rw [← HP.out, HF.out, if_neg he]
        go_wp2
        go_roundw
        case rel => exact ⟨k + 1, fr, by omega, by have := Hfk.out; omega, by go_num, rfl, acc, by have := Hal.out; omega, HO.out, HE.out, HX.out⟩
        case measure => simp [intOf]; omega
    · obtain rfl : k = s.size := by omega
      have hfk' : (fr : Int) ≤ (s.size : Int) := by have := Hfk.out; omega
      have HX : Hid (acc ++ [s.extract fr s.size] = parts s m) := by
        show _ = _
        rw [← HP.out, Nat.sub_self, partsFrom]
      go_wp2_with (at_builtin; refine wpList_append_own _ rfl _ _ 22 rfl w.heap.size 9 i0 (.string ⟨#[]⟩) 1 16 Tryz.underlying22 hi hz0 hz1 hz2 rfl (by decide) _ _ _ rfl (HO.out.alloc _) ⟨wr.heap.size, 0, none⟩ 1 1 [.string (s.extract fr s.size)] rfl rfl (cell_one_new _ _ _) (strs_one _) (by have := Hal.out; unfold maxLen; omega) (by have := Hal.out; omega) (by have := Below.size HE.out; simp; omega) ?_; intro v' w1 hown' hgrow hnil)
      have hN := strs_step HO.out HE.out hown' hgrow
      rw [HX.out] at hN
      obtain ⟨g, cap, rfl, hg⟩ := owns_strs hN.1 (parts_ne s m)
      have Hg := hide hg
      have HN := hide hN.2
      clear hown' hgrow hnil hg hN
      go_wp2
      go_ret
      exact ⟨g, cap, rfl, Hg.out, HN.out⟩

set_option maxHeartbeats 1600000 in
set_option maxRecDepth 100000 in
theorem pieces_any (s : ByteArray) (hs : s.size ≤ 1048576) (w : World) :
    Calls Tryz.prog 145 #[.string s] w fun e w' => GivesL w (parts s 46) e w' := by
  obtain ⟨i0, hi, hz0, hz1, hz2⟩ := info_parts Tryz.infoS
  have hO0 := World.ownsRow_made (base := w.heap.size) (e := 9) (size := 1) w #[] 0 (Nat.le_refl _) (by simp) rfl
  have HO := hide (hO0.alloc (.stringIter s 0))
  have HI := hide (Itr.start (Ext.alloc w (.cells #[] 9)) s)
  clear hO0
  go_enter Tryz.func145, Tryz.ntmps145
  go_wp2
  go_loopw [3, 4] (fun v f wr => ∃ p fr : Nat, p ≤ s.size ∧ fr ≤ p ∧ f = .int .i64 fr ∧ Itr w wr (w.heap.size + 1) s p ∧ ∃ acc : List ByteArray, acc.length ≤ p ∧ wr.ownsRow w.heap.size 9 1 v acc.length (strs acc) ∧ acc ++ partsFrom s 46 (s.size - p) p fr = parts s 46) (fun _ _ wr => s.size - wr.iterPos (w.heap.size + 1))
  case atStart =>
    have hI := HI.out
    rw [show (w.alloc (.cells #[] 9)).heap.size = w.heap.size + 1 by simp] at hI
    exact ⟨0, 0, Nat.zero_le _, Nat.le_refl _, rfl, hI, [], Nat.le_refl _, HO.out, rfl⟩
  case round =>
    clear HO HI
    obtain ⟨p, fr, hp, hfp, rfl, hI, acc, hal, hO, hP⟩ := hrel
    have HP := hide hP
    have Hal := hide hal
    have Hfp := hide hfp
    clear hP hal hfp
    by_cases hlt : p < s.size
    · obtain ⟨r, q, hR⟩ := rn_at s p hlt
      have hnx : ∀ ty, (Instr.next (.pointer (some ⟨w.heap.size + 1, 0, none⟩)) true ty).run Tryz.prog wr = _ := fun ty => hR.next hI.blk hlt ty
      have HM : Hid (wr.iterPos (w.heap.size + 1) = p) := hI.pos
      have HR := hide hR
      have h2 := hR.le
      have HI := hide (hI.step (p + q))
      have HO := hide (own_iterAt hO hI.blk (p + q))
      clear hI hR hO
      generalize wr.iterAt (w.heap.size + 1) s (p + q) = w2 at *
      by_cases he : r = 46
      · subst he
        obtain ⟨hq, hb⟩ := HR.out.low (by omega)
        subst hq
        have hkn' : (p : Int) ≤ (s.size : Int) := by omega
        have hfk' : (fr : Int) ≤ (p : Int) := by have := Hfp.out; omega
        have HX : Hid ((acc ++ [s.extract fr p]) ++ partsFrom s 46 (s.size - (p + 1)) (p + 1) (p + 1) = parts s 46) := by
          show _ = _
          rw [← HP.out, show s.size - p = (s.size - (p + 1)) + 1 by omega, partsFrom, if_pos hb.symm]
          simp
        clear hb
        go_wp2_with (at_builtin; refine wpList_append_own _ rfl _ _ 22 rfl w.heap.size 9 i0 (.string ⟨#[]⟩) 1 16 Tryz.underlying22 hi hz0 hz1 hz2 rfl (by decide) _ _ _ rfl (HO.out.alloc _) ⟨w2.heap.size, 0, none⟩ 1 1 [.string (s.extract fr p)] rfl rfl (cell_one_new _ _ _) (strs_one _) (by have := Hal.out; unfold maxLen; omega) (by have := Hal.out; omega) (by have := Below.size HI.out.ext; simp; omega) ?_; intro v' w1 hown' hgrow hnil)
        have HN := hide (strs_step HO.out HI.out.ext hown' hgrow)
        have HI2 := hide (HI.out.grown HO.out (Nat.le_refl _) hgrow)
        clear hown' hgrow hnil
        go_wp2
        go_roundw
        case rel => exact ⟨p + 1, p + 1, by omega, Nat.le_refl _, by go_num, HI2.out, acc ++ [s.extract fr p], by have := Hal.out; simp; omega, HN.out.1, HX.out⟩
        case measure => rw [HM.out, HI2.out.pos]; omega
      · have hne : ((r : Int) == 46) = false := by simp; omega
        have HX : Hid (acc ++ partsFrom s 46 (s.size - (p + q)) (p + q) fr = parts s 46) := by
          show _ = _
          have h3 := HR.out.fits
          rw [← HP.out, show s.size - p = (s.size - (p + q)) + q by omega, partsFrom_skip]
          intro j h4 h5
          by_cases h6 : r < 128
          · obtain ⟨rfl, h7⟩ := HR.out.low h6
            obtain rfl : j = p := by omega
            omega
          · have := HR.out.high (by omega) j h4 h5
            omega
        go_wp2
        go_roundw
        case rel => exact ⟨p + q, fr, HR.out.fits, by have := Hfp.out; omega, rfl, HI.out, acc, by have := Hal.out; omega, HO.out, HX.out⟩
        case measure => rw [HM.out, HI.out.pos]; have := HR.out.pos; omega
    · obtain rfl : p = s.size := by omega
      have hnx : ∀ ty, (Instr.next (.pointer (some ⟨w.heap.size + 1, 0, none⟩)) true ty).run Tryz.prog wr = _ := fun ty => Lib.run_next_end_at wr (w.heap.size + 1) s s.size ty hI.blk hlt
      have hfk' : (fr : Int) ≤ (s.size : Int) := by have := Hfp.out; omega
      have HE := hide hI.ext
      have HO := hide hO
      clear hI hO
      have HX : Hid (acc ++ [s.extract fr s.size] = parts s 46) := by
        show _ = _
        rw [← HP.out, Nat.sub_self, partsFrom]
      go_wp2_with (at_builtin; refine wpList_append_own _ rfl _ _ 22 rfl w.heap.size 9 i0 (.string ⟨#[]⟩) 1 16 Tryz.underlying22 hi hz0 hz1 hz2 rfl (by decide) _ _ _ rfl (HO.out.alloc _) ⟨wr.heap.size, 0, none⟩ 1 1 [.string (s.extract fr s.size)] rfl rfl (cell_one_new _ _ _) (strs_one _) (by have := Hal.out; unfold maxLen; omega) (by have := Hal.out; omega) (by have := Below.size HE.out; simp; omega) ?_; intro v' w1 hown' hgrow hnil)
      have hN := strs_step HO.out HE.out hown' hgrow
      rw [HX.out] at hN
      obtain ⟨g, cap, rfl, hg⟩ := owns_strs hN.1 (parts_ne s 46)
      have Hg := hide hg
      have HN := hide hN.2
      clear hown' hgrow hnil hg hN
      go_wp2
      go_ret
      exact ⟨g, cap, rfl, Hg.out, HN.out⟩
end

end Go.Proofs.YtollgoadgjlccaaGreatDoor
