/- Walks: Lower of both. Plain facts: a text as names are compared: the model gathers what is no blank, with one blank between; the program lowers, drops blanks side by side and trims. Nothing of the program. Plain notions: puny texts: thresholds, digits, bias, the order in which numbers are told. Nothing of the program. Walks: what Puny of both is made of: thresholds, digits' bytes, bias, words, near bytes, the least number. Walks: words, near bytes, the least number, the program's puny state. Walks: strings.Trim of blanks, texts as names are compared, NameSame of both. Walks: texts as names are compared, NameSame of both. -/
import Derived.Test.YtigjjkondbdgjaaGreatDoorMgA
import Derived.Lib.Strings
import Derived.Test.YtigjjkondbdgjaaGreatDoorNatCm
import Derived.Maps.AppendAt
import Derived.Laws.Rows
import Derived.Lib.QuietBelow
import Derived.Deep.DeepBigQuietO
import Derived.Test.YtigjjkondbdgjaaGreatDoorRowX
import Derived.Lib.SmallJoins
import Derived.Handy
namespace Go.Proofs.YtigjjkondbdgjaaGreatDoor

section
set_option linter.unusedVariables false
set_option linter.unusedSimpArgs false
open Go.RowKit

/-- A byte as Lower has it. -/
def lowB (c : Nat) : Int := if 65 ≤ c ∧ c ≤ 90 then c + 32 else c
def lowF (s : ByteArray) (i : Nat) : Int := lowB (bt s i)

theorem bone1 (x : Int) : ∀ u ∈ [Value.int .u8 x], u.oneCell' = true := by
  intro u hu
  simp at hu
  subst hu
  rfl

theorem low_step {f : Nat → Int} {k : Nat} {w wr w1 : World} {v v' : Value} {o : Obj} {x : Int} (hO : wr.ownsRow w.heap.size 5 1 v k (byts f k)) (hE : Ext w wr) (hx : x = f k)
    (hown : w1.ownsRow w.heap.size 5 1 v' (k + 1) (byts f k ++ [.int .u8 x])) (hg : (wr.alloc o).grownBy w1 v.ownBlock) : w1.ownsRow w.heap.size 5 1 v' (k + 1) (byts f (k + 1)) ∧ Ext w w1 := by
  refine ⟨?_, (Below.alloc hE (Below.size hE) o).grown hg (by have := Below.size hE; simp; omega) (fun j hj => (hO.lt j hj).1)⟩
  rw [byts_succ, ← hx]
  exact hown

set_option maxHeartbeats 1600000 in
set_option maxRecDepth 100000 in
theorem specLower_any (s : ByteArray) (hs : s.size ≤ 2097152) (w : World) :
    Calls Tryz.prog 149 #[.string s] w fun e w' => e = .returned (.string (strOfNums (nums (lowF s) s.size))) ∧ Ext w w' := by
  obtain ⟨i0, hi, hz0, hz1, hz2⟩ := info_parts Tryz.info5
  have HO := hide (World.ownsRow_made (base := w.heap.size) (e := 5) (size := 1) w #[] 0 (Nat.le_refl _) (by simp) rfl)
  go_enter Tryz.func149, Tryz.ntmps149
  go_wp2
  go_loopw [3, 4] (fun v i wr => ∃ k : Nat, k ≤ s.size ∧ i = .int .i64 k ∧ wr.ownsRow w.heap.size 5 1 v k (byts (lowF s) k) ∧ Ext w wr) (fun _ i _ => s.size - (intOf i).toNat)
  case atStart => exact ⟨0, Nat.zero_le _, rfl, HO.out, Ext.alloc _ _⟩
  case round =>
    clear HO
    obtain ⟨k, hk, rfl, hO, hE⟩ := hrel
    by_cases hlt : k < s.size
    · have hb := bt_get s k hlt
      have h2 := bt_lt s k
      have hkn : (k : Int) < (s.size : Int) := by omega
      have HF : Hid (lowF s k = lowB (bt s k)) := rfl
      have HO := hide hO
      have HE := hide hE
      clear hO hE
      generalize bt s k = c at *
      by_cases h65 : 65 ≤ c ∧ c ≤ 90
      · have g1 : (65 : Int) ≤ c := by omega
        have g2 : (c : Int) ≤ 90 := by omega
        have g3 : ((c : Int) + 97) % 256 = (c : Int) + 97 := by omega
        have HX : Hid ((c : Int) + 97 - 65 = lowF s k) := by show _ = _; rw [HF.out, lowB, if_pos h65]; omega
        go_wp2_with (at_builtin; refine wpList_append_own _ rfl _ _ 37 rfl w.heap.size 5 i0 (.int .u8 0) 1 1 Tryz.underlying37 hi hz0 hz1 hz2 rfl (by decide) _ _ _ rfl (HO.out.alloc _) ⟨wr.heap.size, 0, none⟩ 1 1 [.int .u8 ((c : Int) + 97 - 65)] rfl rfl (cell_one_new _ _ _) (bone1 _) (by unfold maxLen; omega) (by omega) (by have := Below.size HE.out; simp; omega) ?_; intro v' w1 hown' hgrow hnil)
        have HN := hide (low_step HO.out HE.out HX.out hown' hgrow)
        clear hown' hgrow hnil
        go_wp2
        go_roundw
        case rel => exact ⟨k + 1, by omega, by go_num, HN.out.1, HN.out.2⟩
        case measure => simp [intOf]; omega
      · have g1 : ¬ ((65 : Int) ≤ c ∧ (c : Int) ≤ 90) := by omega
        have HX : Hid ((c : Int) = lowF s k) := by show _ = _; rw [HF.out, lowB, if_neg h65]
        by_cases g0 : (65 : Int) ≤ c
        · have g2 : ¬ (c : Int) ≤ 90 := by omega
          go_wp2_with (at_builtin; refine wpList_append_own _ rfl _ _ 37 rfl w.heap.size 5 i0 (.int .u8 0) 1 1 Tryz.underlying37 hi hz0 hz1 hz2 rfl (by decide) _ _ _ rfl (HO.out.alloc _) ⟨wr.heap.size, 0, none⟩ 1 1 [.int .u8 (c : Int)] rfl rfl (cell_one_new _ _ _) (bone1 _) (by unfold maxLen; omega) (by omega) (by have := Below.size HE.out; simp; omega) ?_; intro v' w1 hown' hgrow hnil)
          have HN := hide (low_step HO.out HE.out HX.out hown' hgrow)
          clear hown' hgrow hnil
          go_wp2
          go_roundw
          case rel => exact ⟨k + 1, by omega, by go_num, HN.out.1, HN.out.2⟩
          case measure => simp [intOf]; omega
        · go_wp2_with (at_builtin; refine wpList_append_own _ rfl _ _ 37 rfl w.heap.size 5 i0 (.int .u8 0) 1 1 Tryz.underlying37 hi hz0 hz1 hz2 rfl (by decide) _ _ _ rfl (HO.out.alloc _) ⟨wr.heap.size, 0, none⟩ 1 1 [.int .u8 (c : Int)] rfl rfl (cell_one_new _ _ _) (bone1 _) (by unfold maxLen; omega) (by omega) (by have := Below.size HE.out; simp; omega) ?_; intro v' w1 hown' hgrow hnil)
          have HN := hide (low_step HO.out HE.out HX.out hown' hgrow)
          clear hown' hgrow hnil
          go_wp2
          go_roundw
          case rel => exact ⟨k + 1, by omega, by go_num, HN.out.1, HN.out.2⟩
          case measure => simp [intOf]; omega
    · obtain rfl : k = s.size := by omega
      obtain ⟨a, g, cap, rfl, hg, hc1, hc2, hB⟩ := owns_seg hO
      have hcv := conv_seg (cap := cap) hB.toBSeg
      have HE := hide hE
      clear hO hE hB
      go_wp2
      go_ret
      exact ⟨rfl, HE.out⟩

/-- What the program's loop has done behind the bytes below p. -/
def lowK (s : ByteArray) (p i : Nat) : Int := if i < p then lowF s i else bt s i

theorem lowK_high {s : ByteArray} {p q : Nat} (h : ∀ j, p ≤ j → j < p + q → lowF s j = bt s j) (i : Nat) : lowK s (p + q) i = lowK s p i := by
  unfold lowK
  by_cases h1 : i < p
  · rw [if_pos h1, if_pos (by omega)]
  · rw [if_neg h1]
    by_cases h2 : i < p + q
    · rw [if_pos h2]; exact h i (by omega) h2
    · rw [if_neg h2]

theorem bown_iterAt {w : World} {a : Option Addr} {g o n k : Nat} {f : Nat → Int} {s : ByteArray} {p : Nat} (h : BOwn w a g o n f) (hk : g ≠ k) : BOwn (w.iterAt k s p) a g o n f := by
  have hb : (w.iterAt k s p).heap[g]? = w.heap[g]? := Lib.iterAt_other _ _ _ _ _ hk
  refine ⟨⟨h.at', fun i hi => ?_⟩, fun i hi => ?_⟩
  · rw [World.cell?_of_block (a := ⟨g, o + i, none⟩) hb]; exact h.cell i hi
  · rw [World.frozen?_of_block (a := ⟨g, o + i, none⟩) hb]; exact h.free i hi

theorem bown_row (w : World) (s : ByteArray) (cap : Nat) (x : Nat × Nat) (hx : x = ((bytesRow s cap).size, (bytesRow s cap).size + 1)) : BOwn (w.alloc (.cells (bytesRow s cap) 5 x)) (some ⟨w.heap.size, 0, none⟩) w.heap.size 0 s.size (fun i => bt s i) := by
  have hb : (w.alloc (.cells (bytesRow s cap) 5 x)).heap[w.heap.size]? = some (.cells (bytesRow s cap) 5 x) := heap_alloc_new w _
  have hz : s.size ≤ (bytesRow s cap).size := by simp [bytesRow]
  refine ⟨⟨fun _ => rfl, fun i hi => ?_⟩, fun i hi => ?_⟩
  · simp only [World.cell?, hb]
    have : (bytesRow s cap)[i]? = some (.int .u8 (bt s i)) := by
      unfold bytesRow
      rw [Array.getElem?_append_left (by simpa using hi)]
      rw [Array.getElem?_map, Array.getElem?_eq_getElem (by simpa using hi)]
      simp only [Option.map_some]
      rw [← bt_get s i hi]
      rfl
    simpa using this
  · simp only [World.frozen?, hb]
    subst hx
    simp
    omega

set_option maxHeartbeats 1600000 in
set_option maxRecDepth 100000 in
theorem implLower_any (s : ByteArray) (hs : s.size ≤ 2097152) (w : World) :
    Calls Tryz.prog 186 #[.string s] w fun e w' => e = .returned (.string (strOfNums (nums (lowF s) s.size))) ∧ Ext w w' := by
  have hcv := run_bytes_of_string (P := Tryz.prog) w 9 37 5 s (by kernel_rfl) (by kernel_rfl) (by kernel_rfl)
  have HB := hide (bown_row w.drew s (grownCap w s.size 0 5) _ rfl)
  have HE : Hid (Ext w (w.drew.alloc (.cells (bytesRow s (grownCap w s.size 0 5)) 5 ((bytesRow s (grownCap w s.size 0 5)).size, (bytesRow s (grownCap w s.size 0 5)).size + 1)))) := Ext.trans (b := w.drew) ⟨rfl, rfl, rfl, Nat.le_refl _, fun _ _ => rfl⟩ (Ext.alloc _ _)
  have HZ : Hid ((w.drew.alloc (.cells (bytesRow s (grownCap w s.size 0 5)) 5 ((bytesRow s (grownCap w s.size 0 5)).size, (bytesRow s (grownCap w s.size 0 5)).size + 1))).heap.size = w.heap.size + 1) := by show _ = _; simp
  generalize w.drew.alloc (.cells (bytesRow s (grownCap w s.size 0 5)) 5 ((bytesRow s (grownCap w s.size 0 5)).size, (bytesRow s (grownCap w s.size 0 5)).size + 1)) = w1 at *
  generalize grownCap w s.size 0 5 = cap at *
  have HI := hide (Itr.start HE.out s)
  have HB2 := hide (BOwn.of_all HB.out (Ext.alloc w1 (.stringIter s 0)))
  rw [show w1.alloc (.stringIter s 0) = w1.iter s 0 from rfl] at HB2
  have HG : Hid (w.heap.size ≠ w1.heap.size) := by show _ ≠ _; rw [HZ.out]; omega
  clear HB HE HZ
  go_enter Tryz.func186, Tryz.ntmps186
  go_wp2
  clear hcv
  generalize hk0 : w1.heap.size = K at *
  clear hk0
  go_loopw [] (fun wr => ∃ p : Nat, p ≤ s.size ∧ Itr w wr K s p ∧ BOwn wr (some ⟨w.heap.size, 0, none⟩) w.heap.size 0 s.size (lowK s p)) (fun wr => s.size - wr.iterPos K)
  case atStart => exact ⟨0, Nat.zero_le _, HI.out, HB2.out.congr (fun i hi => by unfold lowK; rw [if_neg (Nat.not_lt_zero _)])⟩
  case round =>
    clear HI HB2
    obtain ⟨p, hp, hI, hB⟩ := hrel
    by_cases hlt : p < s.size
    · obtain ⟨r, q, hR⟩ := rn_at s p hlt
      have hnx : ∀ ty, (Instr.next (.pointer (some ⟨K, 0, none⟩)) true ty).run Tryz.prog wr = _ := fun ty => hR.next hI.blk hlt ty
      have HM : Hid (wr.iterPos K = p) := hI.pos
      have HR := hide hR
      have h2 := hR.le
      by_cases h65 : 65 ≤ r ∧ r ≤ 90
      · obtain ⟨hq, hb'⟩ := hR.low (by omega)
        subst hq
        have Hb := hide hb'
        clear hb'
        have g1 : (65 : Int) ≤ r := by omega
        have g2 : (r : Int) ≤ 90 := by omega
        have g5 : (p : Int) < (s.size : Int) := by omega
        have g4 : ((r : Int) + 32) % 256 = (r : Int) + 32 := by omega
        have hBB := bown_iterAt (s := s) (p := p + 1) hB HG.out
        have hc := hBB.cell p hlt
        have hf := hBB.free p hlt
        simp only [Nat.zero_add] at hc hf
        rw [show lowK s p p = (r : Int) by unfold lowK; rw [if_neg (Nat.lt_irrefl _), Hb.out]] at hc
        have HB := hide ((hBB.set hlt ((r : Int) + 32)).congr (f' := lowK s (p + 1)) (fun i hi => by
          unfold lowK
          by_cases e : i = p
          · subst e; rw [if_pos rfl, if_pos (by omega), lowF, lowB, ← Hb.out, if_pos h65]
          · rw [if_neg e]
            by_cases h : i < p
            · rw [if_pos h, if_pos (by omega)]
            · rw [if_neg h, if_neg (by omega)]))
        simp only [Nat.zero_add] at HB
        have HI := hide (hI.step (p + 1))
        have HI2 : Hid (Itr w ((wr.iterAt K s (p + 1)).setCell ⟨w.heap.size, p, none⟩ (.int .u8 ((r : Int) + 32))) K s (p + 1)) := by
          refine ⟨?_, HI.out.ge, ?_⟩
          · rw [Below.heap_setCell _ _ _ _ (by intro e; exact HG.out e.symm)]; exact HI.out.blk
          · exact below_touch HI.out.ext (Touch.set (Touch.refl w.heap.size _) p _) (Nat.le_refl _)
        clear hI hR hB hBB HI
        generalize wr.iterAt K s (p + 1) = w2 at *
        go_wp2
        go_roundw
        case rel => exact ⟨p + 1, by omega, HI2.out, HB.out⟩
        case measure => rw [HM.out, HI2.out.pos]; omega
      · have HB := hide ((bown_iterAt (s := s) (p := p + q) hB HG.out).congr (f' := lowK s (p + q)) (fun i hi => (lowK_high (fun j h1 h3 => by
          unfold lowF lowB
          by_cases h : r < 128
          · obtain ⟨rfl, hb⟩ := hR.low h
            obtain rfl : j = p := by omega
            rw [← hb, if_neg h65]
          · have := hR.high (by omega) j h1 h3
            rw [if_neg (by omega)]) i).symm))
        have HI := hide (hI.step (p + q))
        have HF := hide hR.fits
        have HP := hide hR.pos
        clear hI hR hB
        generalize wr.iterAt K s (p + q) = w2 at *
        by_cases g0 : 65 ≤ r
        · have g1 : (65 : Int) ≤ r := by omega
          have g2 : ¬ (r : Int) ≤ 90 := by omega
          go_wp2
          go_roundw
          case rel => exact ⟨p + q, HF.out, HI.out, HB.out⟩
          case measure => rw [HM.out, HI.out.pos]; have := HP.out; omega
        · have g1 : ¬ (65 : Int) ≤ r := by omega
          go_wp2
          go_roundw
          case rel => exact ⟨p + q, HF.out, HI.out, HB.out⟩
          case measure => rw [HM.out, HI.out.pos]; have := HP.out; omega
    · obtain rfl : p = s.size := by omega
      have hnx : ∀ ty, (Instr.next (.pointer (some ⟨K, 0, none⟩)) true ty).run Tryz.prog wr = _ := fun ty => Lib.run_next_end_at wr K s s.size ty hI.blk hlt
      have hcv := conv_seg (cap := cap) (hB.toBSeg.congr (g := lowF s) (fun i hi => by unfold lowK; rw [if_pos hi]))
      have HE := hide hI.ext
      clear hI hB
      go_wp2
      go_ret
      exact ⟨rfl, HE.out⟩
end

section
set_option linter.unusedVariables false
set_option linter.unusedSimpArgs false
open Go Go.RowKit

/-- What the model has gathered behind the first k bytes. -/
def plL (s : ByteArray) : Nat → List Int
  | 0 => []
  | k + 1 => if bt s k = 32 then plL s k else if 0 < (plL s k).length ∧ bt s (k - 1) = 32 then plL s k ++ [32, (bt s k : Int)] else plL s k ++ [(bt s k : Int)]

theorem plL_len (s : ByteArray) : ∀ k, (plL s k).length ≤ 2 * k
  | 0 => Nat.zero_le _
  | k + 1 => by
    have := plL_len s k
    unfold plL
    split
    · omega
    · split <;> simp <;> omega

theorem plL_byte (s : ByteArray) : ∀ k, ∀ x ∈ plL s k, 0 ≤ x ∧ x < 256
  | 0, x, h => absurd h (by simp [plL])
  | k + 1, x, h => by
    have ih := plL_byte s k
    have hb := bt_lt s k
    unfold plL at h
    split at h
    · exact ih x h
    · split at h
      · rcases List.mem_append.1 h with h | h
        · exact ih x h
        · simp at h; omega
      · rcases List.mem_append.1 h with h | h
        · exact ih x h
        · simp at h; omega

/-- A byte, lowered. -/
def lowI (z : Int) : Int := lowB z.toNat

theorem lowI_bt (c : Nat) : lowI (c : Int) = lowB c := by unfold lowI; rw [Int.toNat_natCast]
theorem lowB_blank (c : Nat) : lowB c = 32 ↔ c = 32 := by unfold lowB; split <;> omega
theorem lowB_32 : lowB 32 = 32 := rfl
theorem lowI_32 : lowI 32 = 32 := rfl
theorem lowB_lt (c : Nat) (h : c < 256) : 0 ≤ lowB c ∧ lowB c < 256 := by unfold lowB; split <;> omega

/-- What the program has gathered behind the first k bytes. -/
def plQ (s : ByteArray) : Nat → List Int
  | 0 => [32]
  | k + 1 => if lowF s k = 32 ∧ (plQ s k).getLast? = some 32 then plQ s k else plQ s k ++ [lowF s k]

theorem plQ_len (s : ByteArray) : ∀ k, (plQ s k).length ≤ k + 1
  | 0 => Nat.le_refl _
  | k + 1 => by
    have := plQ_len s k
    unfold plQ
    split
    · omega
    · simp; omega
theorem plQ_ne (s : ByteArray) : ∀ k, 1 ≤ (plQ s k).length
  | 0 => Nat.le_refl _
  | k + 1 => by
    have := plQ_ne s k
    unfold plQ
    split
    · omega
    · simp

/-- The blank that the program has behind. -/
def plE (s : ByteArray) (k : Nat) : List Int := if 0 < (plL s k).length ∧ bt s (k - 1) = 32 then [32] else []

theorem plL_last (s : ByteArray) : ∀ k, (plL s k).getLast? ≠ some 32
  | 0 => by simp [plL]
  | k + 1 => by
    unfold plL
    split
    · exact plL_last s k
    · rename_i h
      split <;> simp <;> omega
theorem plL_first (s : ByteArray) : ∀ k, (plL s k).head? ≠ some 32
  | 0 => by simp [plL]
  | k + 1 => by
    have ih := plL_first s k
    unfold plL
    split
    · exact ih
    · rename_i h
      split
      · rename_i h2
        cases hp : plL s k with
        | nil => rw [hp] at h2; simp at h2
        | cons a l => rw [hp] at ih; simpa using ih
      · cases hp : plL s k with
        | nil => simp; omega
        | cons a l => rw [hp] at ih; simpa using ih

theorem low_last {L : List Int} (hL : ∀ x ∈ L, 0 ≤ x ∧ x < 256) (h : L.getLast? ≠ some 32) : (L.map lowI).getLast? ≠ some 32 := by
  rw [List.getLast?_map]
  cases hl : L.getLast? with
  | none => simp
  | some a =>
    rw [hl] at h
    simp only [Option.map_some]
    intro e
    simp only [Option.some.injEq] at e
    have ha := hL a (List.mem_of_getLast? hl)
    unfold lowI at e
    have := (lowB_blank a.toNat).1 e
    apply h
    congr 1
    omega

theorem plQ_is (s : ByteArray) : ∀ k, plQ s k = 32 :: (plL s k).map lowI ++ plE s k
  | 0 => rfl
  | k + 1 => by
    have ih := plQ_is s k
    have hlast := low_last (plL_byte s k) (plL_last s k)
    have hf : lowF s k = lowB (bt s k) := rfl
    by_cases hc : bt s k = 32
    · have hl : plL s (k + 1) = plL s k := by rw [plL, if_pos hc]
      have he : plE s (k + 1) = if 0 < (plL s k).length then [32] else [] := by
        unfold plE
        rw [hl, Nat.add_sub_cancel]
        simp [hc]
      have hlow : lowF s k = 32 := by rw [hf, hc]; rfl
      rw [plQ, hl, he, hlow]
      by_cases h0 : 0 < (plL s k).length
      · rw [if_pos h0]
        by_cases hb : bt s (k - 1) = 32
        · have e1 : plE s k = [32] := by unfold plE; rw [if_pos ⟨h0, hb⟩]
          rw [if_pos ⟨rfl, by rw [ih, e1, List.getLast?_append]; rfl⟩, ih, e1]
        · have e1 : plE s k = [] := by unfold plE; rw [if_neg (fun h => hb h.2)]
          rw [if_neg, ih, e1]
          · simp
          · rintro ⟨-, h⟩
            rw [ih, e1, List.append_nil, List.getLast?_cons] at h
            cases hx : ((plL s k).map lowI).getLast? with
            | none =>
              rw [List.getLast?_eq_none_iff] at hx
              have := congrArg List.length hx
              simp at this
              rw [this] at h0
              simp at h0
            | some a =>
              rw [hx] at h hlast
              simp at h
              exact hlast (by rw [h])
      · have e0 : plL s k = [] := List.eq_nil_of_length_eq_zero (by omega)
        have e1 : plE s k = [] := by unfold plE; rw [if_neg (fun h => h0 h.1)]
        rw [if_neg h0, if_pos ⟨rfl, by rw [ih, e1, e0]; rfl⟩, ih, e1]
    · have hlow : ¬ lowF s k = 32 := by rw [hf]; exact fun h => hc ((lowB_blank _).1 h)
      have he : plE s (k + 1) = [] := by unfold plE; rw [Nat.add_sub_cancel, if_neg (fun h => hc h.2)]
      rw [plQ, if_neg (fun h => hlow h.1), he, List.append_nil, ih, plL, if_neg hc]
      unfold plE
      split
      · simp [lowI_32, lowI_bt, hf]
      · simp [lowI_bt, hf]

/-- A text as names are compared. -/
def plainS (s : ByteArray) : ByteArray := strOfNums ((plL s s.size).map lowI)

/-- Bytes of a text made of numbers. -/
theorem bt_of_nums (L : List Int) (hL : ∀ x ∈ L, 0 ≤ x ∧ x < 256) (i : Nat) (h : i < L.length) : (bt (strOfNums L) i : Int) = L[i] := by
  have h' : i < (strOfNums L).size := by rw [strOfNums_size]; exact h
  rw [← bt_get _ i h']
  have hx := hL _ (List.getElem_mem h)
  have : (strOfNums L)[i]'h' = UInt8.ofNat (L[i]).toNat := by
    have e : (strOfNums L)[i]'h' = (strOfNums L).data.toList[i]'(by rw [strOfNums_data]; simpa using h) := rfl
    rw [e]
    simp [strOfNums_data]
  rw [this]
  simp
  omega

/-- What a trim leaves of s: from k up to m. -/
structure TrimAt (s : ByteArray) (k m : Nat) : Prop where
  km : k ≤ m
  ms : m ≤ s.size
  lo : ∀ j, j < k → bt s j = 32
  hi : ∀ j, m ≤ j → j < s.size → bt s j = 32
  fst : k < m → bt s k ≠ 32
  lst : k < m → bt s (m - 1) ≠ 32

theorem extract_nums (L : List Int) (k m : Nat) : (strOfNums L).extract k m = strOfNums ((L.drop k).take (m - k)) := by
  refine ByteArray.ext (Array.ext' ?_)
  rw [Lib.extract_data, strOfNums_data, strOfNums_data, List.map_take, List.map_drop]

theorem trim_is {A E : List Int} (hA : ∀ x ∈ A, 0 ≤ x ∧ x < 256) (hE : ∀ x ∈ E, x = 32) (hf : A.head? ≠ some 32) (hl : A.getLast? ≠ some 32) {k m : Nat} (h : TrimAt (strOfNums (32 :: A ++ E)) k m) : (strOfNums (32 :: A ++ E)).extract k m = strOfNums A := by
  have hall : ∀ x ∈ 32 :: A ++ E, 0 ≤ x ∧ x < 256 := by
    intro x hx
    rcases List.mem_append.1 hx with h | h
    · rcases List.mem_cons.1 h with h | h
      · omega
      · exact hA x h
    · have := hE x h; omega
  have hlen : (32 :: A ++ E).length = 1 + A.length + E.length := by simp; omega
  have hb : ∀ i (hi : i < (32 :: A ++ E).length), (bt (strOfNums (32 :: A ++ E)) i : Int) = (32 :: A ++ E)[i] := fun i hi => bt_of_nums _ hall i hi
  have hs : (strOfNums (32 :: A ++ E)).size = 1 + A.length + E.length := by rw [strOfNums_size, hlen]
  obtain ⟨km, ms, lo, hi, fst, lst⟩ := h
  rw [hs] at ms hi
  have b0 : bt (strOfNums (32 :: A ++ E)) 0 = 32 := by
    have h1 := hb 0 (by rw [hlen]; omega)
    have h2 : (32 :: A ++ E)[0]'(by rw [hlen]; omega) = (32 : Int) := rfl
    rw [h2] at h1
    omega
  have bE : ∀ i, A.length < i → i < 1 + A.length + E.length → bt (strOfNums (32 :: A ++ E)) i = 32 := by
    intro i h1 h2
    have h3 := hb i (by rw [hlen]; omega)
    rw [List.getElem_append_right (by simp; omega)] at h3
    have := hE _ (List.getElem_mem (l := E) (n := i - (32 :: A).length) (by simp; omega))
    omega
  have bA : ∀ i (hi : i < A.length), (bt (strOfNums (32 :: A ++ E)) (i + 1) : Int) = A[i] := by
    intro i h1
    have h3 := hb (i + 1) (by rw [hlen]; omega)
    rw [List.getElem_append_left (by simp; omega), List.getElem_cons_succ] at h3
    exact h3
  rw [extract_nums]
  congr 1
  by_cases h0 : A.length = 0
  · have hA0 : A = [] := List.eq_nil_of_length_eq_zero h0
    have : k = m := by
      by_cases c : k < m
      · have := fst c
        exfalso
        apply this
        by_cases z : k = 0
        · subst z; exact b0
        · exact bE k (by omega) (by omega)
      · omega
    rw [this, Nat.sub_self, hA0]
    rfl
  · have f1 : bt (strOfNums (32 :: A ++ E)) 1 ≠ 32 := by
      have := bA 0 (by omega)
      intro e
      simp only [Nat.zero_add] at this
      rw [e] at this
      apply hf
      rw [List.head?_eq_getElem?, List.getElem?_eq_getElem (by omega), ← this]
      rfl
    have l1 : bt (strOfNums (32 :: A ++ E)) A.length ≠ 32 := by
      have := bA (A.length - 1) (by omega)
      intro e
      rw [show A.length - 1 + 1 = A.length by omega, e] at this
      apply hl
      rw [List.getLast?_eq_getElem?, List.getElem?_eq_getElem (by omega), ← this]
      rfl
    have k1 : ¬ 1 < k := fun c => f1 (lo 1 c)
    have m1 : A.length < m := by
      rcases Nat.lt_or_ge A.length m with c | c
      · exact c
      · exact absurd (hi A.length c (by omega)) l1
    have k0 : k ≠ 0 := by
      intro e
      have := fst (by omega)
      rw [e] at this
      exact this b0
    have mm : m = A.length + 1 := by
      by_cases c : m = A.length + 1
      · exact c
      · exact absurd (bE (m - 1) (by omega) (by omega)) (lst (by omega))
    have kk : k = 1 := by omega
    subst kk mm
    simp

theorem plain_trim (s : ByteArray) {k m : Nat} (h : TrimAt (strOfNums (plQ s s.size)) k m) : (strOfNums (plQ s s.size)).extract k m = plainS s := by
  have hb := plL_byte s s.size
  have hb2 : ∀ x ∈ (plL s s.size).map lowI, 0 ≤ x ∧ x < 256 := by
    intro x hx
    obtain ⟨y, hy, rfl⟩ := List.mem_map.1 hx
    have := hb y hy
    exact lowB_lt _ (by omega)
  rw [plQ_is] at h ⊢
  refine trim_is hb2 ?_ ?_ (low_last hb (plL_last s s.size)) h
  · intro x hx
    unfold plE at hx
    split at hx
    · simpa using hx
    · simp at hx
  · have h1 := plL_first s s.size
    rw [List.head?_map]
    cases hl : (plL s s.size).head? with
    | none => simp
    | some a =>
      rw [hl] at h1
      simp only [Option.map_some]
      intro e
      simp only [Option.some.injEq] at e
      have ha := hb a (List.mem_of_head? hl)
      have := (lowB_blank a.toNat).1 e
      apply h1
      congr 1
      omega

/-- The model lowers what it has gathered. -/
theorem plain_low (s : ByteArray) : strOfNums (nums (lowF (strOfNums (plL s s.size))) (strOfNums (plL s s.size)).size) = plainS s := by
  unfold plainS
  congr 1
  rw [strOfNums_size]
  apply List.ext_getElem
  · simp [nums]
  · intro i h1 h2
    simp only [nums, List.length_map, List.length_range] at h1
    have := bt_of_nums (plL s s.size) (plL_byte s s.size) i h1
    simp only [nums, List.getElem_map, List.getElem_range]
    unfold lowF lowI
    congr 1
    omega
end

section
set_option linter.unusedVariables false
set_option linter.unusedSimpArgs false

/-- What a digit at k is held against. -/
def thr (k bias : Int) : Int := max 1 (min 26 (k - bias))
theorem thr_ge (k b : Int) : 1 ≤ thr k b := by unfold thr; omega
theorem thr_le (k b : Int) : thr k b ≤ 26 := by unfold thr; omega

/-- A digit's byte. -/
def pd (x : Int) : Int := if x < 26 then 97 + x else 22 + x

/-- q's digits, from k on. -/
def pdig (bias : Int) : Nat → Int → Int → List Int
  | 0, _, _ => []
  | F + 1, k, q => if q < thr k bias then [pd q] else pd (thr k bias + (q - thr k bias) % (36 - thr k bias)) :: pdig bias F (k + 36) ((q - thr k bias) / (36 - thr k bias))
def dgs (bias q : Int) : List Int := pdig bias (q.toNat + 1) 36 q

theorem quo_less {q t : Int} (h1 : 1 ≤ t) (h2 : t ≤ 26) (h : t ≤ q) : 0 ≤ (q - t) / (36 - t) ∧ (q - t) / (36 - t) ≤ q - 1 := by
  have h3 : 0 ≤ q - t := by omega
  have h4 : 0 < 36 - t := by omega
  refine ⟨Int.ediv_nonneg h3 (by omega), ?_⟩
  have := Int.ediv_le_self (36 - t) h3
  omega

theorem pdig_fuel (b : Int) : ∀ F G k q, 0 ≤ q → q.toNat < F → q.toNat < G → pdig b F k q = pdig b G k q
  | 0, G, k, q, h0, h1, h2 => absurd h1 (Nat.not_lt_zero _)
  | F + 1, 0, k, q, h0, h1, h2 => absurd h2 (Nat.not_lt_zero _)
  | F + 1, G + 1, k, q, h0, h1, h2 => by
    unfold pdig
    split
    · rfl
    · rename_i h
      have hl := quo_less (thr_ge k b) (thr_le k b) (Int.not_lt.1 h)
      have h1' := thr_ge k b
      rw [pdig_fuel b F G (k + 36) _ hl.1 (by omega) (by omega)]

theorem pdig_last {b : Int} {F : Nat} {k q : Int} (hF : q.toNat < F) (h : q < thr k b) : pdig b F k q = [pd q] := by
  obtain ⟨G, rfl⟩ : ∃ G, F = G + 1 := ⟨F - 1, by omega⟩
  unfold pdig
  rw [if_pos h]
theorem pdig_more {b : Int} {F : Nat} {k q : Int} (hF : q.toNat < F) (h : ¬ q < thr k b) : ∃ G, ((q - thr k b) / (36 - thr k b)).toNat < G ∧ pdig b F k q = pd (thr k b + (q - thr k b) % (36 - thr k b)) :: pdig b G (k + 36) ((q - thr k b) / (36 - thr k b)) := by
  obtain ⟨G, rfl⟩ : ∃ G, F = G + 1 := ⟨F - 1, by omega⟩
  have hl := quo_less (thr_ge k b) (thr_le k b) (Int.not_lt.1 h)
  have h1' := thr_ge k b
  refine ⟨G, by omega, ?_⟩
  rw [pdig, if_neg h]

/-- The bias, by division. -/
def bl : Nat → Int → Int → Int
  | 0, d, k => k + 36 * d / (d + 38)
  | F + 1, d, k => if 455 < d then bl F (d / 35) (k + 36) else k + 36 * d / (d + 38)
def pbias (delta many : Int) (first : Bool) : Int :=
  let d := if first then delta / 700 else delta / 2
  bl (d + d / many).toNat (d + d / many) 0

theorem frac_le {d : Int} (h : 0 ≤ d) : 0 ≤ 36 * d / (d + 38) ∧ 36 * d / (d + 38) ≤ 36 := by
  refine ⟨Int.ediv_nonneg (by omega) (by omega), ?_⟩
  exact Int.ediv_le_of_le_mul (by omega) (by omega)

theorem bl_bound : ∀ F d k, 0 ≤ d → 0 ≤ k → 0 ≤ bl F d k ∧ bl F d k ≤ k + 36 * d + 36
  | 0, d, k, h0, h1 => by unfold bl; have := frac_le h0; omega
  | F + 1, d, k, h0, h1 => by
    unfold bl
    split
    · have := bl_bound F (d / 35) (k + 36) (by omega) (by omega)
      omega
    · have := frac_le h0; omega

theorem bl_end {F : Nat} {d k : Int} (h : ¬ 455 < d) : bl F d k = k + 36 * d / (d + 38) := by
  cases F
  · rfl
  · unfold bl; rw [if_neg h]
theorem bl_more {F : Nat} {d k : Int} (hF : d.toNat ≤ F) (h : 455 < d) : ∃ G, (d / 35).toNat ≤ G ∧ bl F d k = bl G (d / 35) (k + 36) := by
  obtain ⟨G, rfl⟩ : ∃ G, F = G + 1 := ⟨F - 1, by omega⟩
  refine ⟨G, by omega, ?_⟩
  rw [bl, if_pos h]

theorem pbias_bound {d m : Int} {b : Bool} (h0 : 0 ≤ d) (h1 : d ≤ 30000000) (h2 : 1 ≤ m) : 0 ≤ pbias d m b ∧ pbias d m b ≤ 2000000000 := by
  unfold pbias
  have h3 : 0 ≤ (if b then d / 700 else d / 2) ∧ (if b then d / 700 else d / 2) ≤ 15000000 := by split <;> omega
  generalize (if b then d / 700 else d / 2) = x at *
  have h4 := Int.ediv_nonneg h3.1 (show 0 ≤ m by omega)
  have h5 := Int.ediv_le_self m h3.1
  have := bl_bound (x + x / m).toNat (x + x / m) 0 (by omega) (Int.le_refl _)
  simp only []
  omega

/-- The least number from n on, of the first k; or m. -/
def lst (f : Nat → Int) (n m : Int) : Nat → Int
  | 0 => m
  | k + 1 => if n ≤ f k then min (lst f n m k) (f k) else lst f n m k

/-- How many of the first k are below n. -/
def cnt (f : Nat → Int) (n : Int) : Nat → Nat
  | 0 => 0
  | k + 1 => cnt f n k + if f k < n then 1 else 0
/-- How many of the first k are n. -/
def cntE (f : Nat → Int) (n : Int) : Nat → Nat
  | 0 => 0
  | k + 1 => cntE f n k + if f k = n then 1 else 0

theorem cnt_le (f : Nat → Int) (n : Int) : ∀ k, cnt f n k ≤ k
  | 0 => Nat.le_refl _
  | k + 1 => by unfold cnt; have := cnt_le f n k; split <;> omega
theorem cnt_all {f : Nat → Int} {n : Int} : ∀ {k}, cnt f n k = k → ∀ i, i < k → f i < n
  | 0, _, i, hi => absurd hi (Nat.not_lt_zero _)
  | k + 1, h, i, hi => by
    unfold cnt at h
    have := cnt_le f n k
    split at h
    · rename_i hk
      by_cases e : i = k
      · subst e; exact hk
      · exact cnt_all (show cnt f n k = k by omega) i (by omega)
    · omega
theorem cnt_some {f : Nat → Int} {n : Int} : ∀ {k}, cnt f n k < k → ∃ i, i < k ∧ n ≤ f i
  | 0, h => absurd h (Nat.not_lt_zero _)
  | k + 1, h => by
    by_cases e : f k < n
    · unfold cnt at h
      rw [if_pos e] at h
      obtain ⟨i, h1, h2⟩ := cnt_some (show cnt f n k < k by omega)
      exact ⟨i, by omega, h2⟩
    · exact ⟨k, by omega, by omega⟩
theorem cnt_succ (f : Nat → Int) (n : Int) : ∀ k, cnt f (n + 1) k = cnt f n k + cntE f n k
  | 0 => rfl
  | k + 1 => by
    unfold cnt cntE
    rw [cnt_succ f n k]
    by_cases h1 : f k < n
    · rw [if_pos h1, if_pos (by omega), if_neg (by omega)]; omega
    · by_cases h2 : f k = n
      · rw [if_neg h1, if_pos (by omega), if_pos h2]; omega
      · rw [if_neg h1, if_neg (by omega), if_neg h2]; omega
theorem cnt_gap {f : Nat → Int} {n m : Int} (hnm : n ≤ m) : ∀ {k}, (∀ i, i < k → n ≤ f i → m ≤ f i) → cnt f m k = cnt f n k
  | 0, _ => rfl
  | k + 1, h => by
    unfold cnt
    rw [cnt_gap hnm (fun i hi => h i (by omega))]
    by_cases e : f k < n
    · rw [if_pos e, if_pos (by omega)]
    · have := h k (by omega) (by omega)
      rw [if_neg e, if_neg (by omega)]
theorem cntE_pos {f : Nat → Int} {n : Int} : ∀ {k i}, i < k → f i = n → 1 ≤ cntE f n k
  | 0, i, hi, _ => absurd hi (Nat.not_lt_zero _)
  | k + 1, i, hi, he => by
    unfold cntE
    by_cases e : i = k
    · subst e; rw [if_pos he]; omega
    · have := cntE_pos (show i < k by omega) he; omega
theorem cnt_cntE_le (f : Nat → Int) (n : Int) (k : Nat) : cnt f n k + cntE f n k ≤ k := by rw [← cnt_succ]; exact cnt_le f (n + 1) k

theorem lst_le {f : Nat → Int} {n m : Int} : ∀ {k}, lst f n m k ≤ m
  | 0 => Int.le_refl _
  | k + 1 => by unfold lst; have := @lst_le f n m k; split <;> omega
theorem lst_low {f : Nat → Int} {n m : Int} : ∀ {k i}, i < k → n ≤ f i → lst f n m k ≤ f i
  | 0, i, hi, _ => absurd hi (Nat.not_lt_zero _)
  | k + 1, i, hi, h => by
    unfold lst
    by_cases e : i = k
    · subst e; rw [if_pos h]; omega
    · have := @lst_low f n m k i (by omega) h
      split <;> omega
theorem lst_is {f : Nat → Int} {n m : Int} : ∀ {k}, lst f n m k = m ∨ ∃ i, i < k ∧ n ≤ f i ∧ lst f n m k = f i
  | 0 => .inl rfl
  | k + 1 => by
    unfold lst
    split
    · rename_i h
      rcases @lst_is f n m k with e | ⟨i, h1, h2, h3⟩
      · by_cases c : m ≤ f k
        · left; omega
        · exact .inr ⟨k, by omega, h, by omega⟩
      · by_cases c : lst f n m k ≤ f k
        · exact .inr ⟨i, by omega, h2, by omega⟩
        · exact .inr ⟨k, by omega, h, by omega⟩
    · rcases @lst_is f n m k with e | ⟨i, h1, h2, h3⟩
      · exact .inl e
      · exact .inr ⟨i, by omega, h2, h3⟩

/-- What the least is, where there is one. -/
structure IsLst (f : Nat → Int) (n : Int) (len : Nat) (x : Int) : Prop where
  ge : n ≤ x
  gap : ∀ i, i < len → n ≤ f i → x ≤ f i
  at' : ∃ i, i < len ∧ f i = x
theorem lst_spec {f : Nat → Int} {n m : Int} {len : Nat} (hf : ∀ i, i < len → f i ≤ 1114111) (hm : 1114111 ≤ m) (hx : ∃ i, i < len ∧ n ≤ f i) : IsLst f n len (lst f n m len) := by
  obtain ⟨i, h1, h2⟩ := hx
  have hl := @lst_low f n m len i h1 h2
  have hi := hf i h1
  rcases @lst_is f n m len with e | ⟨j, h3, h4, h5⟩
  · exact ⟨by omega, fun j hj hn => lst_low hj hn, ⟨i, h1, by omega⟩⟩
  · exact ⟨by omega, fun j hj hn => lst_low hj hn, ⟨j, h3, h5.symm⟩⟩
theorem IsLst.unique {f : Nat → Int} {n : Int} {len : Nat} {x y : Int} (h : IsLst f n len x) (k : IsLst f n len y) : x = y := by
  obtain ⟨i, h1, h2⟩ := h.at'
  obtain ⟨j, k1, k2⟩ := k.at'
  have h3 := h.ge
  have k3 := k.ge
  have := h.gap j k1 (by omega)
  have := k.gap i h1 (by omega)
  omega

/-- What is told so far: how many numbers, the delta, the bias, the bytes. -/
structure PS where
  h : Nat
  d : Int
  b : Int
  o : List Int

def pin (basic : Nat) (n x : Int) (s : PS) : PS :=
  if x = n then ⟨s.h + 1, 0, pbias s.d (s.h + 1) (s.h == basic), s.o ++ dgs s.b s.d⟩
  else if x < n then ⟨s.h, s.d + 1, s.b, s.o⟩ else s
def pinF (basic : Nat) (n : Int) (f : Nat → Int) : Nat → PS → PS
  | 0, s => s
  | k + 1, s => pin basic n (f k) (pinF basic n f k s)
def pout (basic len : Nat) (f : Nat → Int) : Nat → PS → Int → List Int
  | 0, s, n => s.o
  | F + 1, s, n => if s.h < len then
      pout basic len f F ⟨(pinF basic (lst f n 1114112 len) f len ⟨s.h, s.d + (lst f n 1114112 len - n) * (s.h + 1), s.b, s.o⟩).h, (pinF basic (lst f n 1114112 len) f len ⟨s.h, s.d + (lst f n 1114112 len - n) * (s.h + 1), s.b, s.o⟩).d + 1, (pinF basic (lst f n 1114112 len) f len ⟨s.h, s.d + (lst f n 1114112 len - n) * (s.h + 1), s.b, s.o⟩).b, (pinF basic (lst f n 1114112 len) f len ⟨s.h, s.d + (lst f n 1114112 len - n) * (s.h + 1), s.b, s.o⟩).o⟩ (lst f n 1114112 len + 1)
    else s.o

/-- Those below 128. -/
def nearL (f : Nat → Int) : Nat → List Int
  | 0 => []
  | k + 1 => if f k < 128 then nearL f k ++ [f k] else nearL f k
theorem nearL_len (f : Nat → Int) : ∀ k, (nearL f k).length = cnt f 128 k
  | 0 => rfl
  | k + 1 => by unfold nearL cnt; split <;> simp [nearL_len f k]
def markL (L : List Int) : List Int := if 0 < L.length then L ++ [45] else L
def punyL (f : Nat → Int) (len : Nat) : List Int := pout (cnt f 128 len) len f len ⟨cnt f 128 len, 0, 72, markL (nearL f len)⟩ 128

theorem pout_end {basic len : Nat} {f : Nat → Int} {F : Nat} {s : PS} {n : Int} (h : ¬ s.h < len) : pout basic len f F s n = s.o := by
  cases F
  · rfl
  · unfold pout; rw [if_neg h]

theorem pdig_len (b : Int) : ∀ F k q, (pdig b F k q).length ≤ F
  | 0, k, q => Nat.le_refl _
  | F + 1, k, q => by
    unfold pdig
    split
    · simp
    · have := pdig_len b F (k + 36) ((q - thr k b) / (36 - thr k b)); simp; omega
theorem dgs_len (b q : Int) : (dgs b q).length ≤ q.toNat + 1 := pdig_len b _ _ _

/-- The bounds of a state within a round at m, k numbers looked at. -/
structure InB (f : Nat → Int) (len : Nat) (m : Int) (k : Nat) (s : PS) : Prop where
  h : s.h = cnt f m len + cntE f m k
  d0 : 0 ≤ s.d
  d1 : s.d ≤ 21 * m + k
  b0 : 0 ≤ s.b
  b1 : s.b ≤ 2000000000
  l1 : s.o.length ≤ 30 + 30000001 * s.h

theorem InB.step {f : Nat → Int} {len k basic : Nat} {m : Int} {s : PS} (hm0 : 128 ≤ m) (hm1 : m ≤ 1114111) (hl : len ≤ 20) (hk : k < len) (B : InB f len m k s) : InB f len m (k + 1) (pin basic m (f k) s) := by
  have h1 := B.d0
  have h2 := B.d1
  have h3 := B.h
  have h4 := B.l1
  unfold pin
  by_cases e : f k = m
  · rw [if_pos e]
    obtain ⟨p1, p2⟩ := pbias_bound (d := s.d) (m := (s.h : Int) + 1) (b := s.h == basic) h1 (by omega) (by omega)
    have hd := dgs_len s.b s.d
    refine ⟨?_, Int.le_refl _, by simp only []; omega, p1, p2, ?_⟩
    · simp only [cntE]; rw [if_pos e]; omega
    · simp only [List.length_append]; omega
  · rw [if_neg e]
    by_cases c : f k < m
    · rw [if_pos c]
      refine ⟨?_, by simp only []; omega, by simp only []; omega, B.b0, B.b1, h4⟩
      simp only [cntE]; rw [if_neg e]; omega
    · rw [if_neg c]
      exact ⟨by simp only [cntE]; rw [if_neg e]; omega, h1, by omega, B.b0, B.b1, h4⟩

/-- The bounds of a state between rounds. -/
structure OutB (f : Nat → Int) (len : Nat) (n : Int) (s : PS) : Prop where
  h : s.h = cnt f n len
  n0 : 128 ≤ n
  n1 : n ≤ 1114112
  d0 : 0 ≤ s.d
  d1 : s.d ≤ 21 * n
  b0 : 0 ≤ s.b
  b1 : s.b ≤ 2000000000
  l1 : s.o.length ≤ 30 + 30000001 * s.h

/-- A round begins. -/
theorem OutB.into {f : Nat → Int} {len : Nat} {n m : Int} {s : PS} (hl : len ≤ 20) (B : OutB f len n s) (hs : s.h < len) (hf : ∀ i, i < len → f i ≤ 1114111) (hm : IsLst f n len m) :
    128 ≤ m ∧ m ≤ 1114111 ∧ n ≤ m ∧ 0 ≤ (m - n) * ((s.h : Int) + 1) ∧ (m - n) * ((s.h : Int) + 1) ≤ 21 * (m - n) ∧ InB f len m 0 ⟨s.h, s.d + (m - n) * ((s.h : Int) + 1), s.b, s.o⟩ := by
  obtain ⟨i, h1, h2⟩ := hm.at'
  have h3 := hf i h1
  have h4 := hm.ge
  have h5 := B.n0
  have p0 : 0 ≤ (m - n) * ((s.h : Int) + 1) := Int.mul_nonneg (by omega) (by omega)
  have p1 : (m - n) * ((s.h : Int) + 1) ≤ (m - n) * 21 := Int.mul_le_mul_of_nonneg_left (by omega) (by omega)
  have hd0 := B.d0
  have hd1 := B.d1
  refine ⟨by omega, by omega, h4, p0, by omega, ?_⟩
  refine ⟨?_, by simp only []; omega, by simp only []; omega, B.b0, B.b1, B.l1⟩
  simp only [cntE]
  rw [cnt_gap h4 hm.gap]
  exact B.h

/-- A round ends. -/
theorem InB.out {f : Nat → Int} {len : Nat} {m : Int} {s : PS} (hl : len ≤ 20) (hm0 : 128 ≤ m) (hm1 : m ≤ 1114111) (B : InB f len m len s) : OutB f len (m + 1) ⟨s.h, s.d + 1, s.b, s.o⟩ :=
  ⟨by rw [cnt_succ]; exact B.h, by omega, by omega, by have := B.d0; simp only []; omega, by have := B.d1; simp only []; omega, B.b0, B.b1, B.l1⟩

/-- The bytes, a round further. -/
theorem pout_step {basic len : Nat} {f : Nat → Int} {F : Nat} {s s2 : PS} {n m : Int} (hl : len ≤ 20) (hF : len - s.h ≤ F) (B : OutB f len n s) (hs : s.h < len) (hf : ∀ i, i < len → f i ≤ 1114111) (hm : IsLst f n len m)
    (h2 : s2 = pinF basic m f len ⟨s.h, s.d + (m - n) * ((s.h : Int) + 1), s.b, s.o⟩) (B2 : InB f len m len s2) :
    ∃ G, len - s2.h ≤ G ∧ pout basic len f F s n = pout basic len f G ⟨s2.h, s2.d + 1, s2.b, s2.o⟩ (m + 1) := by
  obtain ⟨G, rfl⟩ : ∃ G, F = G + 1 := ⟨F - 1, by omega⟩
  obtain ⟨i, h1, h3⟩ := hm.at'
  have hg := hm.ge
  have e : lst f n 1114112 len = m := IsLst.unique (lst_spec hf (by omega) ⟨i, h1, by omega⟩) hm
  refine ⟨G, ?_, ?_⟩
  · have := B2.h
    have := cntE_pos h1 h3
    have := cnt_gap hg hm.gap
    have := B.h
    omega
  · rw [pout, if_pos hs, e, ← h2]
end

section
set_option linter.unusedVariables false
set_option linter.unusedSimpArgs false
open Go.RowKit

theorem pbias_eq (d m : Int) (b : Bool) {x : Int} (hx : x = (if b then d / 700 else d / 2) + (if b then d / 700 else d / 2) / m) : pbias d m b = bl x.toNat x 0 := by
  subst hx
  rfl
end

section
set_option linter.unusedVariables false
set_option linter.unusedSimpArgs false
open Go.RowKit

/-- A word. -/
def ltrs (f : Nat → Int) : Nat → Bool
  | 0 => true
  | n + 1 => ltrs f n && (decide (0 ≤ f n) && decide (f n ≤ 1114111))
theorem ltrs_iff (f : Nat → Int) (n : Nat) : ltrs f n = true ↔ ∀ i, i < n → 0 ≤ f i ∧ f i ≤ 1114111 := by
  induction n with
  | zero => simp [ltrs]
  | succ n ih =>
    simp only [ltrs, Bool.and_eq_true, ih, decide_eq_true_eq]
    constructor
    · rintro ⟨h, h0, h1⟩ i hi
      by_cases e : i = n
      · subst e; exact ⟨h0, h1⟩
      · exact h i (by omega)
    · intro h
      exact ⟨fun i hi => h i (by omega), (h n (by omega)).1, (h n (by omega)).2⟩
def wordB (n : Nat) (f : Nat → Int) : Bool := ltrs f n && (decide (1 ≤ n) && decide (n ≤ 20))
theorem word_no {f : Nat → Int} {n k : Nat} (hk : k < n) (h : f k < 0 ∨ 1114111 < f k) : wordB n f = false := by
  unfold wordB
  cases e : ltrs f n with
  | false => rfl
  | true => have := (ltrs_iff f n).1 e k hk; omega
theorem word_end {f : Nat → Int} {n : Nat} (h : ∀ i, i < n → 0 ≤ f i ∧ f i ≤ 1114111) : wordB n f = (decide (1 ≤ n) && decide (n ≤ 20)) := by
  unfold wordB
  rw [(ltrs_iff f n).2 h, Bool.true_and]
theorem word_is {f : Nat → Int} {n : Nat} (h : wordB n f = true) : 1 ≤ n ∧ n ≤ 20 ∧ ∀ i, i < n → 0 ≤ f i ∧ f i ≤ 1114111 := by
  unfold wordB at h
  simp only [Bool.and_eq_true, decide_eq_true_eq] at h
  exact ⟨h.2.1, h.2.2, (ltrs_iff f n).1 h.1⟩

/-- Numbers as cells of bytes. -/
def bys (L : List Int) : List Value := L.map (.int .u8)
theorem bys_one (x : Int) : ∀ u ∈ [Value.int .u8 x], u.oneCell' = true := by
  intro u hu
  simp at hu
  subst hu
  rfl
theorem bys_byts (L : List Int) : bys L = byts (fun i => L.getD i 0) L.length := by
  unfold bys byts
  apply List.ext_getElem
  · simp
  · intro i h1 h2
    simp at h1
    simp [h1]
theorem nums_list (L : List Int) : nums (fun i => L.getD i 0) L.length = L := by
  unfold nums
  apply List.ext_getElem
  · simp
  · intro i h1 h2
    simp [h2]
theorem bys_step {L : List Int} {w wr w1 : World} {v v' : Value} {o : Obj} {x : Int} (hO : wr.ownsRow w.heap.size 5 1 v L.length (bys L)) (hE : Ext w wr)
    (hown : w1.ownsRow w.heap.size 5 1 v' (L.length + 1) (bys L ++ [.int .u8 x])) (hg : (wr.alloc o).grownBy w1 v.ownBlock) : w1.ownsRow w.heap.size 5 1 v' (L ++ [x]).length (bys (L ++ [x])) ∧ Ext w w1 := by
  refine ⟨?_, (Below.alloc hE (Below.size hE) o).grown hg (by have := Below.size hE; simp; omega) (fun j hj => (hO.lt j hj).1)⟩
  simpa [bys] using hown

/-- A new list of bytes. -/
def GivesO (w : World) (L : List Int) (e : Ending) (w' : World) : Prop := ∃ v, e = .returned v ∧ w'.ownsRow w.heap.size 5 1 v L.length (bys L) ∧ Ext w w'

/-- The program's puny state. -/
def psV (near told bias : Int) : Value := .agg #[.int .i64 near, .int .i64 told, .int .i64 bias]

theorem bys_step' {L : List Int} {B : Nat} {wr w1 : World} {v v' : Value} {o : Obj} {x : Int} (hO : wr.ownsRow B 5 1 v L.length (bys L)) (hB : B ≤ wr.heap.size)
    (hown : w1.ownsRow B 5 1 v' (L.length + 1) (bys L ++ [.int .u8 x])) (hg : (wr.alloc o).grownBy w1 v.ownBlock) : w1.ownsRow B 5 1 v' (L ++ [x]).length (bys (L ++ [x])) ∧ Below B wr w1 :=
  ⟨by simpa [bys] using hown, ((Below.refl B wr).alloc hB o).grown hg (by simp; omega) (fun j hj => (hO.lt j hj).1)⟩

theorem rem_dig {z T : Int} (h1 : 1 ≤ T) (h2 : T ≤ 26) (h : ¬ z < T) : 0 ≤ (z - T) % (36 - T) ∧ T + (z - T) % (36 - T) < 36 := by
  have h3 := Int.emod_nonneg (z - T) (show 36 - T ≠ 0 by omega)
  have h4 := Int.emod_lt_of_pos (z - T) (show 0 < 36 - T by omega)
  omega
end

section
set_option linter.unusedVariables false
set_option linter.unusedSimpArgs false
open Go.RowKit

/-- Where s ends without its last blanks. -/
def endR (s : ByteArray) : Nat → Nat
  | 0 => 0
  | n + 1 => if bt s n = 32 then endR s n else n + 1
/-- Where s begins without its first blanks. -/
def begL (s : ByteArray) : Nat → Nat → Nat
  | 0, k => k
  | n + 1, k => if bt s k = 32 then begL s n (k + 1) else k
def cutR (s : ByteArray) : ByteArray := s.extract 0 (endR s s.size)
def cutL (s : ByteArray) : ByteArray := s.extract (begL s s.size 0) s.size

theorem endR_le (s : ByteArray) : ∀ n, endR s n ≤ n
  | 0 => Nat.le_refl _
  | n + 1 => by
    have := endR_le s n
    unfold endR
    split <;> omega
theorem endR_hi (s : ByteArray) : ∀ n j, endR s n ≤ j → j < n → bt s j = 32
  | 0, j, _, h => absurd h (Nat.not_lt_zero _)
  | n + 1, j, h, h2 => by
    unfold endR at h
    split at h
    · rename_i e
      by_cases c : j = n
      · subst c; exact e
      · exact endR_hi s n j h (by omega)
    · omega
theorem endR_last (s : ByteArray) : ∀ n, 0 < endR s n → bt s (endR s n - 1) ≠ 32
  | 0, h => absurd h (Nat.lt_irrefl _)
  | n + 1, h => by
    unfold endR at h ⊢
    split
    · rename_i e
      rw [if_pos e] at h
      exact endR_last s n h
    · rename_i e
      simpa using e
theorem begL_ge (s : ByteArray) : ∀ n k, k ≤ begL s n k ∧ begL s n k ≤ k + n
  | 0, k => ⟨Nat.le_refl _, Nat.le_refl _⟩
  | n + 1, k => by
    have := begL_ge s n (k + 1)
    unfold begL
    split <;> omega
theorem begL_lo (s : ByteArray) : ∀ n k j, k ≤ j → j < begL s n k → bt s j = 32
  | 0, k, j, h, h2 => by unfold begL at h2; omega
  | n + 1, k, j, h, h2 => by
    unfold begL at h2
    split at h2
    · rename_i e
      by_cases c : j = k
      · subst c; exact e
      · exact begL_lo s n (k + 1) j (by omega) h2
    · omega
theorem begL_first (s : ByteArray) : ∀ n k, begL s n k < k + n → bt s (begL s n k) ≠ 32
  | 0, k, h => by unfold begL at h; omega
  | n + 1, k, h => by
    unfold begL at h ⊢
    split
    · rename_i e
      rw [if_pos e] at h
      exact begL_first s n (k + 1) (by omega)
    · rename_i e
      exact e

theorem bt_cut (s : ByteArray) (a b i : Nat) (hb : b ≤ s.size) (hi : a + i < b) : bt (s.extract a b) i = bt s (a + i) := by
  have h1 : i < (s.extract a b).size := by simp; omega
  have h2 : a + i < s.size := by omega
  rw [← bt_get _ i h1, ← bt_get s (a + i) h2]
  congr 1
  simp [ByteArray.getElem_extract]

theorem trim_at (s : ByteArray) : TrimAt s (begL (cutR s) (cutR s).size 0) (endR s s.size) ∧ cutL (cutR s) = s.extract (begL (cutR s) (cutR s).size 0) (endR s s.size) := by
  have hm := endR_le s s.size
  have hz : (cutR s).size = endR s s.size := by unfold cutR; simp; omega
  have hk := (begL_ge (cutR s) (cutR s).size 0).2
  have hb : ∀ j, j < endR s s.size → bt (cutR s) j = bt s j := fun j hj => by
    unfold cutR
    rw [bt_cut s 0 _ j hm (by omega), Nat.zero_add]
  refine ⟨⟨by omega, hm, fun j hj => ?_, fun j h1 h2 => endR_hi s _ j h1 h2, fun h => ?_, fun h => endR_last s _ (by omega)⟩, ?_⟩
  · rw [← hb j (by omega)]
    exact begL_lo (cutR s) _ 0 j (Nat.zero_le _) hj
  · rw [← hb _ h]
    exact begL_first (cutR s) _ 0 (by omega)
  · unfold cutL
    rw [hz] at hk ⊢
    generalize begL (cutR s) (endR s s.size) 0 = k at *
    refine ByteArray.ext (Array.ext' ?_)
    unfold cutR
    rw [Lib.extract_data, Lib.extract_data, Lib.extract_data, List.drop_zero, Nat.sub_zero, List.drop_take, List.take_take]
    congr 1
    omega

theorem trim_plain (s : ByteArray) : cutL (cutR (strOfNums (plQ s s.size))) = plainS s := by
  obtain ⟨h1, h2⟩ := trim_at (strOfNums (plQ s s.size))
  rw [h2]
  exact plain_trim s h1

set_option maxHeartbeats 1600000 in
set_option maxRecDepth 100000 in
theorem trimRight_any (s : ByteArray) (hs : s.size ≤ 4194304) (w : World) :
    Calls Tryz.prog 190 #[.string s, .int .u8 32] w fun e w' => e = .returned (.string (cutR s)) ∧ w' = w := by
  have HR : Hid (cutR s = s.extract 0 (endR s s.size)) := rfl
  generalize cutR s = R at *
  go_enter Tryz.func190, Tryz.ntmps190
  go_wp2
  go_loopw [0] (fun v wr => wr = w ∧ ∃ u : ByteArray, v = .string u ∧ ∃ m : Nat, m ≤ s.size ∧ u = s.extract 0 m ∧ endR s m = endR s s.size) (fun v _ => (match v with | .string u => u.size | _ => 0))
  case atStart => exact ⟨rfl, s, rfl, s.size, Nat.le_refl _, by simp, rfl⟩
  case round =>
    obtain ⟨rfl, u, rfl, m, hm, hu, he⟩ := hrel
    have hz : u.size = m := by rw [hu]; simp; omega
    have hb : ∀ j, j < m → bt u j = bt s j := fun j hj => by rw [hu, bt_cut s 0 m j hm (by omega), Nat.zero_add]
    have HU := hide hu
    have HB := hide hb
    have HE := hide he
    clear hu hb he
    cases m with
    | zero =>
      go_wp2
      go_ret
      refine ⟨?_, rfl⟩
      rw [HR.out, HU.out, ← HE.out]
      rfl
    | succ q =>
      have hlt : q < u.size := by omega
      have hg := bt_get u q hlt
      have h2 := bt_lt u q
      have Hb := hide (HB.out q (by omega))
      have HE2 : Hid (endR s (q + 1) = if bt s q = 32 then endR s q else q + 1) := rfl
      have HX : Hid (u.extract 0 q = s.extract 0 q) := by
        show _ = _
        rw [HU.out]
        refine ByteArray.ext (Array.ext' ?_)
        rw [Lib.extract_data, Lib.extract_data, Lib.extract_data]
        simp [List.take_take]
      generalize bt u q = c at *
      by_cases h32 : c = 32
      · subst h32
        have w1 : wrap64 (((q : Int) + 1) - 1) = q := by unfold wrap64; omega
        have HN : Hid (endR s q = endR s s.size) := by show _ = _; rw [← HE.out, HE2.out, if_pos Hb.out.symm]
        have g1 : (q : Int) ≤ (q : Int) + 1 := by omega
        go_wp2
        go_roundw
        case rel => exact ⟨trivial, _, rfl, q, by omega, HX.out, HN.out⟩
        case measure => simp; omega
      · have hne : ((c : Int) == 32) = false := by simp; omega
        have HN : Hid (q + 1 = endR s s.size) := by show _ = _; rw [← HE.out, HE2.out, if_neg (by rw [← Hb.out]; exact h32)]
        go_wp2
        go_ret
        refine ⟨?_, rfl⟩
        rw [HR.out, HU.out, ← HN.out]
        rfl

set_option maxHeartbeats 1600000 in
set_option maxRecDepth 100000 in
theorem trimLeft_any (s : ByteArray) (hs : s.size ≤ 4194304) (w : World) :
    Calls Tryz.prog 189 #[.string s, .int .u8 32] w fun e w' => e = .returned (.string (cutL s)) ∧ w' = w := by
  have HR : Hid (cutL s = s.extract (begL s s.size 0) s.size) := rfl
  generalize cutL s = R at *
  go_enter Tryz.func189, Tryz.ntmps189
  go_wp2
  go_loopw [0] (fun v wr => wr = w ∧ ∃ u : ByteArray, v = .string u ∧ ∃ k : Nat, k ≤ s.size ∧ u = s.extract k s.size ∧ begL s (s.size - k) k = begL s s.size 0) (fun v _ => (match v with | .string u => u.size | _ => 0))
  case atStart => exact ⟨rfl, s, rfl, 0, Nat.zero_le _, by simp, rfl⟩
  case round =>
    obtain ⟨rfl, u, rfl, k, hk, hu, he⟩ := hrel
    have hz : u.size = s.size - k := by rw [hu]; simp
    have HU := hide hu
    have HE := hide he
    by_cases hlt : k < s.size
    · have hb : bt u 0 = bt s k := by rw [hu, bt_cut s k s.size 0 (Nat.le_refl _) (by omega), Nat.add_zero]
      have hl0 : 0 < u.size := by omega
      have g0 : (0 : Int) < (u.size : Int) := by omega
      have g1 : (1 : Int) ≤ (u.size : Int) := by omega
      have hg := bt_get u 0 hl0
      have h2 := bt_lt u 0
      have Hb := hide hb
      have HE2 : Hid (begL s (s.size - k) k = if bt s k = 32 then begL s (s.size - (k + 1)) (k + 1) else k) := by
        show _ = _
        rw [show s.size - k = (s.size - (k + 1)) + 1 by omega, begL]
      have HX : Hid (u.extract 1 u.size = s.extract (k + 1) s.size) := by
        show _ = _
        rw [hz, hu]
        refine ByteArray.ext (Array.ext' ?_)
        rw [Lib.extract_data, Lib.extract_data, Lib.extract_data, List.drop_take, List.drop_drop, List.take_take]
        congr 1
        omega
      have Hz := hide hz
      clear hu hb he hz
      generalize bt u 0 = c at *
      by_cases h32 : c = 32
      · subst h32
        have HN : Hid (begL s (s.size - (k + 1)) (k + 1) = begL s s.size 0) := by show _ = _; rw [← HE.out, HE2.out, if_pos Hb.out.symm]
        go_wp2
        go_roundw
        case rel => exact ⟨trivial, _, rfl, k + 1, by omega, HX.out, HN.out⟩
        case measure => simp; omega
      · have hne : ((c : Int) == 32) = false := by simp; omega
        have HN : Hid (k = begL s s.size 0) := by show _ = _; rw [← HE.out, HE2.out, if_neg (by rw [← Hb.out]; exact h32)]
        go_wp2
        go_ret
        refine ⟨?_, rfl⟩
        rw [HR.out, HU.out, ← HN.out]
        rfl
    · have hz0 : u.size = 0 := by omega
      have HN : Hid (k = begL s s.size 0) := by show _ = _; rw [← he, show s.size - k = 0 by omega]; rfl
      clear hu he hz
      go_wp2
      go_ret
      refine ⟨?_, rfl⟩
      rw [HR.out, HU.out, ← HN.out]
      rfl

set_option maxHeartbeats 1600000 in
set_option maxRecDepth 100000 in
theorem trim_any (s : ByteArray) (h0 : 0 < s.size) (hs : s.size ≤ 4194304) (w : World) :
    Calls Tryz.prog 187 #[.string s, .string ⟨#[32]⟩] w fun e w' => e = .returned (.string (cutL (cutR s))) ∧ Ext w w' := by
  have HL : Hid (∀ w, Calls Tryz.prog 189 #[.string (cutR s), .int .u8 32] w fun e w' => e = .returned (.string (cutL (cutR s))) ∧ w' = w) := fun w => trimLeft_any (cutR s) (by unfold cutR; simp; omega) w
  have HR : Hid (∀ w, Calls Tryz.prog 190 #[.string s, .int .u8 32] w fun e w' => e = .returned (.string (cutR s)) ∧ w' = w) := fun w => trimRight_any s hs w
  have he : (s.toList == []) = false := by
    cases h : (s.toList == [])
    · rfl
    · rw [beq_iff_eq, ByteArray.toList_eq] at h
      have := congrArg List.length h
      have e := Lib.size_eq s
      rw [List.length_nil] at this
      omega
  generalize cutL (cutR s) = L at *
  generalize cutR s = R at *
  clear h0
  go_enter Tryz.func187, Tryz.ntmps187
  go_wp2
  go_quiet (first | (go_at_call 189; exact Calls.quiet_of_same (HL.out _)) | (go_at_call 190; exact Calls.quiet_of_same (HR.out _)))
  go_wp2
  go_ret
  exact ⟨rfl, below_drewN (Below.refl _ _) _⟩
end

section
set_option linter.unusedVariables false
set_option linter.unusedSimpArgs false
open Go.RowKit

theorem strOfNums_bys {w : World} {B : Nat} {v : Value} {L : List Int} (h : w.ownsRow B 5 1 v L.length (bys L)) : ∃ a g cap, v = .slice a L.length cap ∧ B ≤ g ∧ L.length ≤ cap ∧ cap ≤ 9223372036854775807 ∧ BOwn w a g 0 L.length (fun i => L.getD i 0) ∧ (convert 37 9 (.slice a L.length cap)).run Tryz.prog w = .ok (.string (strOfNums L)) w := by
  obtain ⟨a, g, cap, rfl, h1, h2, h3, h4⟩ := owns_seg (f := fun i => L.getD i 0) (by rw [← bys_byts]; exact h)
  refine ⟨a, g, cap, rfl, h1, h2, h3, h4, ?_⟩
  rw [conv_seg (cap := cap) h4.toBSeg, nums_list]

theorem rowE {w w' : World} {B e n : Nat} {v : Value} {xs : List Value} (ho : w.ownsRow B e 1 v n xs) (h : Ext w w') : w'.ownsRow B e 1 v n xs := by
  refine ⟨ho.1, ?_⟩
  rcases ho.2 with h0 | ⟨g, cap, cur, rfl, hb, hg, rest⟩
  · exact .inl h0
  · exact .inr ⟨g, cap, cur, rfl, hb, (Below.block h g (Array.getElem?_eq_some_iff.1 hg).1).trans hg, rest⟩

theorem row_slice {w : World} {B e n : Nat} {v : Value} {xs : List Value} (h : w.ownsRow B e 1 v n xs) : ∃ a cap, v = .slice a n cap := by
  rcases h.2 with ⟨rfl, rfl⟩ | ⟨g, cap, cur, rfl, _⟩
  · exact ⟨none, 0, rfl⟩
  · exact ⟨_, cap, rfl⟩

set_option maxHeartbeats 1600000 in
set_option maxRecDepth 100000 in
theorem l10Plain_any (s : ByteArray) (hs : s.size ≤ 1048576) (w : World) :
    Calls Tryz.prog 113 #[.string s] w fun e w' => e = .returned (.string (plainS s)) ∧ Ext w w' := by
  obtain ⟨i0, hi, hz0, hz1, hz2⟩ := info_parts Tryz.info5
  have HO := hide (World.ownsRow_made (base := w.heap.size) (e := 5) (size := 1) w #[] 0 (Nat.le_refl _) (by simp) rfl)
  have HLo : Hid (∀ t : ByteArray, t.size ≤ 2097152 → ∀ w, Calls Tryz.prog 149 #[.string t] w fun e w' => e = .returned (.string (strOfNums (nums (lowF t) t.size))) ∧ Ext w w') := fun t h w => specLower_any t h w
  have HP := hide (plain_low s)
  generalize plainS s = R at *
  go_enter Tryz.func113, Tryz.ntmps113
  go_wp2
  go_loopw [3, 4] (fun v i wr => ∃ k : Nat, k ≤ s.size ∧ i = .int .i64 k ∧ wr.ownsRow w.heap.size 5 1 v (plL s k).length (bys (plL s k)) ∧ Ext w wr) (fun _ i _ => s.size - (intOf i).toNat)
  case atStart => exact ⟨0, Nat.zero_le _, rfl, HO.out, Ext.alloc _ _⟩
  case round =>
    clear HO
    obtain ⟨k, hk, rfl, hO, hE⟩ := hrel
    have Hlen := hide (plL_len s k)
    obtain ⟨va, vc, rfl⟩ := row_slice hO
    have HO := hide hO
    have HE := hide hE
    clear hO hE
    by_cases hlt : k < s.size
    · have hb := bt_get s k hlt
      have h2 := bt_lt s k
      have hkn : (k : Int) < (s.size : Int) := by omega
      have HF : Hid (plL s (k + 1) = if bt s k = 32 then plL s k else if 0 < (plL s k).length ∧ bt s (k - 1) = 32 then plL s k ++ [32, (bt s k : Int)] else plL s k ++ [(bt s k : Int)]) := rfl
      have HL0 : Hid (0 < (plL s k).length → 0 < k) := fun h => by
        cases k with
        | zero => simp [plL] at h
        | succ k => omega
      generalize bt s k = c at *
      by_cases h32 : c = 32
      · subst h32
        have HN : Hid (wr.ownsRow w.heap.size 5 1 (.slice va (plL s k).length vc) (plL s (k + 1)).length (bys (plL s (k + 1)))) := by
          rw [HF.out, if_pos rfl]
          exact HO.out
        clear HF HL0 HO Hlen
        generalize (plL s k).length = n0 at *
        go_wp2
        go_roundw
        case rel => exact ⟨k + 1, by omega, by go_num, HN.out, HE.out⟩
        case measure => simp [intOf]; omega
      · have hne : ((c : Int) != 32) = true := by simp; omega
        have Hc := hide h32
        clear h32
        by_cases h0 : 0 < (plL s k).length
        · obtain ⟨q, rfl⟩ : ∃ q, k = q + 1 := ⟨k - 1, by have := HL0.out h0; omega⟩
          have hq := bt_get s q (by omega)
          have h3 := bt_lt s q
          have HF' : Hid (plL s (q + 1 + 1) = if bt s q = 32 then plL s (q + 1) ++ [32, (c : Int)] else plL s (q + 1) ++ [(c : Int)]) := by
            show _ = _
            rw [HF.out, if_neg Hc.out, Nat.add_sub_cancel]
            by_cases e : bt s q = 32
            · rw [if_pos ⟨h0, e⟩, if_pos e]
            · rw [if_neg (fun h => e h.2), if_neg e]
          have hqs : (q : Int) < (s.size : Int) := by omega
          have w1 : wrap64 (((q : Int) + 1) - 1) = q := by unfold wrap64; omega
          have HT0 := hide (rfl : plL s (q + 1 + 1) = plL s (q + 1 + 1))
          clear HF HL0
          generalize bt s q = d at *
          obtain ⟨T, hT⟩ : ∃ T, T = plL s (q + 1 + 1) := ⟨_, rfl⟩
          rw [← hT] at HF'
          have HTT := hide hT
          clear hT HT0
          generalize plL s (q + 1) = L at *
          obtain ⟨m, hm⟩ : ∃ m, L.length = m + 1 := ⟨L.length - 1, by omega⟩
          have Hm := hide hm
          have g0 : (0 : Int) < (m : Int) + 1 := by omega
          by_cases hd : d = 32
          · subst hd
            have hT := HF'.out
            rw [if_pos rfl] at hT
            have HT := hide hT
            clear hT HF'
            go_wp2_with (first | (at_builtin; refine wpList_append_own _ rfl _ _ 37 rfl w.heap.size 5 i0 (.int .u8 0) 1 1 Tryz.underlying37 hi hz0 hz1 hz2 rfl (by decide) _ _ _ rfl (HO.out.alloc _) ⟨wr.heap.size, 0, none⟩ 1 1 [.int .u8 32] rfl rfl (cell_one_new _ _ _) (bys_one _) (by have := Hlen.out; unfold maxLen; omega) (by have := Hlen.out; omega) (by have := Below.size HE.out; simp; omega) ?_; intro v1 w1 hown' hgrow hnil; have HN1 := hide (bys_step HO.out HE.out hown' hgrow); clear hown' hgrow hnil) | (at_builtin; refine wpList_append_own _ rfl _ _ 37 rfl w.heap.size 5 i0 (.int .u8 0) 1 1 Tryz.underlying37 hi hz0 hz1 hz2 rfl (by decide) _ _ _ rfl (HN1.out.1.alloc _) ⟨w1.heap.size, 0, none⟩ 1 1 [.int .u8 (c : Int)] rfl rfl (cell_one_new _ _ _) (bys_one _) (by have := Hlen.out; (try simp only [List.length_append, List.length_cons, List.length_nil]); unfold maxLen; omega) (by have := Hlen.out; (try simp only [List.length_append, List.length_cons, List.length_nil]); omega) (by have := Below.size HN1.out.2; simp; omega) ?_; intro v2 w2 hown' hgrow hnil; have HN2 := hide (bys_step HN1.out.1 HN1.out.2 hown' hgrow); clear hown' hgrow hnil))
            go_wp2
            go_roundw
            case rel => exact ⟨q + 1 + 1, by omega, by go_num, by rw [← HTT.out, HT.out]; simpa using HN2.out.1, HN2.out.2⟩
            case measure => simp [intOf]; omega
          · have hdn : ((d : Int) == 32) = false := by simp; omega
            have hT := HF'.out
            rw [if_neg hd] at hT
            have HT := hide hT
            clear hT HF'
            go_wp2_with (at_builtin; refine wpList_append_own _ rfl _ _ 37 rfl w.heap.size 5 i0 (.int .u8 0) 1 1 Tryz.underlying37 hi hz0 hz1 hz2 rfl (by decide) _ _ _ rfl (HO.out.alloc _) ⟨wr.heap.size, 0, none⟩ 1 1 [.int .u8 (c : Int)] rfl rfl (cell_one_new _ _ _) (bys_one _) (by have := Hlen.out; unfold maxLen; omega) (by have := Hlen.out; omega) (by have := Below.size HE.out; simp; omega) ?_; intro v2 w2 hown' hgrow hnil; have HN2 := hide (bys_step HO.out HE.out hown' hgrow); clear hown' hgrow hnil)
            go_wp2
            go_roundw
            case rel => exact ⟨q + 1 + 1, by omega, by go_num, by rw [← HTT.out, HT.out]; exact HN2.out.1, HN2.out.2⟩
            case measure => simp [intOf]; omega
        · have hT : plL s (k + 1) = plL s k ++ [(c : Int)] := by rw [HF.out, if_neg Hc.out, if_neg (fun h => h0 h.1)]
          obtain ⟨T, hT'⟩ : ∃ T, T = plL s (k + 1) := ⟨_, rfl⟩
          rw [← hT'] at hT
          have HTT := hide hT'
          have HT := hide hT
          clear hT hT' HF HL0
          generalize plL s k = L at *
          have hm : L.length = 0 := by omega
          go_wp2_with (at_builtin; refine wpList_append_own _ rfl _ _ 37 rfl w.heap.size 5 i0 (.int .u8 0) 1 1 Tryz.underlying37 hi hz0 hz1 hz2 rfl (by decide) _ _ _ rfl (HO.out.alloc _) ⟨wr.heap.size, 0, none⟩ 1 1 [.int .u8 (c : Int)] rfl rfl (cell_one_new _ _ _) (bys_one _) (by have := Hlen.out; unfold maxLen; omega) (by have := Hlen.out; omega) (by have := Below.size HE.out; simp; omega) ?_; intro v2 w2 hown' hgrow hnil; have HN2 := hide (bys_step HO.out HE.out hown' hgrow); clear hown' hgrow hnil)
          go_wp2
          go_roundw
          case rel => exact ⟨k + 1, by omega, by go_num, by rw [← HTT.out, HT.out]; exact HN2.out.1, HN2.out.2⟩
          case measure => simp [intOf]; omega
    · obtain rfl : k = s.size := by omega
      obtain ⟨a, g, cap, hv, -, -, -, -, hcv⟩ := strOfNums_bys HO.out
      simp only [Value.slice.injEq, true_and] at hv
      obtain ⟨rfl, rfl⟩ := hv
      have hz : (strOfNums (plL s s.size)).size ≤ 2097152 := by rw [strOfNums_size]; have := Hlen.out; omega
      generalize (plL s s.size).length = n0 at *
      generalize strOfNums (plL s s.size) = T at *
      go_wp2_with (go_at_call 149; refine (HLo.out T hz _).mono ?_; rintro e wq ⟨rfl, hEq⟩; have HEq := hide hEq; clear hEq)
      go_ret
      exact ⟨by rw [HP.out]; rfl, Ext.trans HE.out HEq.out⟩


theorem xrow_seg {w : World} {B : Nat} {v : Value} {L : List Int} (h : ownsX w B 5 v L.length (bys L)) : ∃ g cap, v = .slice (some ⟨g, 0, none⟩) L.length cap ∧ B ≤ g ∧ BSeg w (some ⟨g, 0, none⟩) g 0 L.length (fun i => L.getD i 0) ∧ (convert 37 9 (.slice (some ⟨g, 0, none⟩) L.length cap)).run Tryz.prog w = .ok (.string (strOfNums L)) w := by
  obtain ⟨g, cap, rfl, hb, -, -, hc⟩ := h.cells
  have hs : BSeg w (some ⟨g, 0, none⟩) g 0 L.length (fun i => L.getD i 0) := ⟨fun _ => rfl, fun i hi => by
    rw [Nat.zero_add]
    refine hc i _ ?_
    simp [bys, hi]⟩
  refine ⟨g, cap, rfl, hb, hs, ?_⟩
  rw [conv_seg (cap := cap) hs, nums_list]

theorem xrow_step {L : List Int} {w wr w1 : World} {v v' : Value} {o : Obj} {x : Int} (hO : ownsX wr w.heap.size 5 v L.length (bys L)) (hE : Ext w wr)
    (hown : ownsX w1 w.heap.size 5 v' (L.length + 1) (bys L ++ [.int .u8 x])) (hg : (wr.alloc o).grownBy w1 v.ownBlock) : ownsX w1 w.heap.size 5 v' (L ++ [x]).length (bys (L ++ [x])) ∧ Ext w w1 := by
  refine ⟨?_, (Below.alloc hE (Below.size hE) o).grown hg (by have := Below.size hE; simp; omega) (fun j hj => (hO.lt j hj).1)⟩
  simpa [bys] using hown

/-- A row that is not the one appended to stays. -/
theorem row_apart {w w1 : World} {K : Nat} {v v' : Value} {o ob : Obj} (hn : v.ownBlock ≠ some K) (hK : w.heap[K]? = some ob) (hg : (w.alloc o).grownBy w1 v.ownBlock) (hat : v'.ownBlock = v.ownBlock ∨ v'.ownBlock = some (w.alloc o).heap.size) : w1.heap[K]? = some ob ∧ v'.ownBlock ≠ some K := by
  have hlt : K < w.heap.size := (Array.getElem?_eq_some_iff.1 hK).1
  refine ⟨?_, ?_⟩
  · rw [hg.block K (by simp; omega) (fun e => hn e.symm), ← hK]
    exact Below.heap_alloc _ _ _ hlt
  · rcases hat with h | h
    · rw [h]; exact hn
    · rw [h]; simp; omega

theorem str_cells {w : World} {K cap i : Nat} {s : ByteArray} {x : Nat × Nat} (h : w.heap[K]? = some (.cells (bytesRow s cap) 5 x)) (hi : i < s.size) : w.cell? ⟨K, i, none⟩ = some (.int .u8 (bt s i)) := by
  simp only [World.cell?, h]
  have : (bytesRow s cap)[i]? = some (.int .u8 (bt s i)) := by
    unfold bytesRow
    rw [Array.getElem?_append_left (by simpa using hi)]
    rw [Array.getElem?_map, Array.getElem?_eq_getElem (by simpa using hi)]
    simp only [Option.map_some]
    rw [← bt_get s i hi]
    rfl
  simpa using this

theorem last_of {L : List Int} {m : Nat} (h : L.length = m + 1) : L.getLast? = some (L.getD m 0) := by
  rw [List.getLast?_eq_getElem?, h, Nat.add_sub_cancel, List.getElem?_eq_getElem (by omega)]
  simp [List.getD_eq_getElem?_getD, List.getElem?_eq_getElem (show m < L.length by omega)]

theorem low_byte (s : ByteArray) : ∀ x ∈ nums (lowF s) s.size, 0 ≤ x ∧ x < 256 := by
  intro x hx
  unfold nums at hx
  obtain ⟨i, -, rfl⟩ := List.mem_map.1 hx
  exact lowB_lt _ (bt_lt s i)

set_option maxHeartbeats 1600000 in
set_option maxRecDepth 100000 in
theorem plainText_any (s : ByteArray) (hs : s.size ≤ 1048576) (w : World) :
    Calls Tryz.prog 176 #[.string s] w fun e w' => e = .returned (.string (plainS s)) ∧ Ext w w' := by
  obtain ⟨i0, hi, hz0, hz1, hz2⟩ := info_parts Tryz.info5
  have hO0 : ownsX (w.alloc (.cells #[.int .u8 32] 5 (1, 1 + 1))) w.heap.size 5 (.slice (some ⟨w.heap.size, 0, none⟩) 1 1) 1 (bys [32]) := ⟨rfl, w.heap.size, 1, #[.int .u8 32], (1, 1 + 1), rfl, Nat.le_refl _, heap_alloc_new w _, .inr (Nat.le_refl _), Nat.le_refl _, by unfold maxLen; omega, rfl, rfl⟩
  have HO := hide hO0
  have HE0 : Hid (Ext w (w.alloc (.cells #[.int .u8 32] 5 (1, 1 + 1)))) := Ext.alloc _ _
  have HS0 : Hid (w.heap.size < (w.alloc (.cells #[.int .u8 32] 5 (1, 1 + 1))).heap.size) := by show _ < _; simp
  have hcc : (convert 37 37 (.slice (some ⟨w.heap.size, 0, none⟩) 1 1)).run Tryz.prog (w.alloc (.cells #[.int .u8 32] 5)) = .ok (.slice (some ⟨w.heap.size, 0, none⟩) 1 1) (w.alloc (.cells #[.int .u8 32] 5 (1, 1 + 1))) := by rw [Lib.run_convert_bytes_const w 37 5 #[.int .u8 32] 1 1 (by kernel_rfl) (by kernel_rfl)]; rfl
  generalize w.alloc (.cells #[.int .u8 32] 5 (1, 1 + 1)) = w0 at *
  have HLo : Hid (∀ w, Calls Tryz.prog 186 #[.string s] w fun e w' => e = .returned (.string (strOfNums (nums (lowF s) s.size))) ∧ Ext w w') := fun w => implLower_any s (by omega) w
  have HTr : Hid (∀ w, Calls Tryz.prog 187 #[.string (strOfNums (plQ s s.size)), .string ⟨#[32]⟩] w fun e w' => e = .returned (.string (plainS s)) ∧ Ext w w') := fun w => by
    have h1 := plQ_ne s s.size
    have h2 := plQ_len s s.size
    have := trim_any (strOfNums (plQ s s.size)) (by rw [strOfNums_size]; omega) (by rw [strOfNums_size]; omega) w
    rw [trim_plain] at this
    exact this
  have hTz : (strOfNums (nums (lowF s) s.size)).size = s.size := by rw [strOfNums_size]; simp [nums]
  have HTb : Hid (∀ i, i < s.size → (bt (strOfNums (nums (lowF s) s.size)) i : Int) = lowF s i) := fun i h => by
    rw [bt_of_nums _ (low_byte s) i (by simpa [nums] using h)]
    simp [nums]
  generalize strOfNums (nums (lowF s) s.size) = T at *
  generalize plainS s = R at *
  clear hO0
  go_enter Tryz.func176, Tryz.ntmps176
  go_wp2_with fail
  refine (HLo.out _).mono ?_
  rintro e w1 ⟨rfl, hE⟩
  have HO1 := hide (HO.out.keep (fun g hg => Below.block hE g (HO.out.lt g hg).2))
  have HS1 := hide (Nat.lt_of_lt_of_le HS0.out (Below.size hE))
  have HE1 := hide (Ext.trans HE0.out hE)
  clear hE HE0 HO HS0
  have hcv := run_bytes_of_string (P := Tryz.prog) w1 9 37 5 T (by kernel_rfl) (by kernel_rfl) (by kernel_rfl)
  have HKb : Hid ((w1.drew.alloc (.cells (bytesRow T (grownCap w1 T.size 0 5)) 5 ((bytesRow T (grownCap w1 T.size 0 5)).size, (bytesRow T (grownCap w1 T.size 0 5)).size + 1))).heap[w1.heap.size]? = some (.cells (bytesRow T (grownCap w1 T.size 0 5)) 5 ((bytesRow T (grownCap w1 T.size 0 5)).size, (bytesRow T (grownCap w1 T.size 0 5)).size + 1))) := heap_alloc_new w1.drew _
  have hE2 : Ext w1 (w1.drew.alloc (.cells (bytesRow T (grownCap w1 T.size 0 5)) 5 ((bytesRow T (grownCap w1 T.size 0 5)).size, (bytesRow T (grownCap w1 T.size 0 5)).size + 1))) := Ext.trans (b := w1.drew) ⟨rfl, rfl, rfl, Nat.le_refl _, fun _ _ => rfl⟩ (Ext.alloc _ _)
  have HO2 := hide (HO1.out.keep (fun g hg => Below.block hE2 g (HO1.out.lt g hg).2))
  have HE2 := hide (Ext.trans HE1.out hE2)
  clear hE2 HO1 HE1
  generalize w1.drew.alloc (.cells (bytesRow T (grownCap w1 T.size 0 5)) 5 ((bytesRow T (grownCap w1 T.size 0 5)).size, (bytesRow T (grownCap w1 T.size 0 5)).size + 1)) = w2 at *
  generalize grownCap w1 T.size 0 5 = cap at *
  generalize w1.heap.size = K at *
  go_wp2
  clear hcv
  go_loopw [3, 12] (fun v i wr => ∃ k : Nat, k ≤ s.size ∧ i = .int .i64 k ∧ ownsX wr w.heap.size 5 v (plQ s k).length (bys (plQ s k)) ∧ wr.heap[K]? = some (.cells (bytesRow T cap) 5 ((bytesRow T cap).size, (bytesRow T cap).size + 1)) ∧ v.ownBlock ≠ some K ∧ Ext w wr) (fun _ i _ => s.size - (intOf i).toNat)
  case atStart => exact ⟨0, Nat.zero_le _, rfl, HO2.out, HKb.out, by have := HS1.out; simp [Value.ownBlock]; omega, HE2.out⟩
  case round =>
    clear HO2 HKb HE2
    obtain ⟨k, hk, rfl, hO, hK, hKn, hE⟩ := hrel
    have Hlen := hide (plQ_len s k)
    obtain ⟨g, vc, rfl, -, hB, hcv⟩ := xrow_seg hO
    have HO := hide hO
    have HE := hide hE
    have HK := hide hK
    have HKn := hide hKn
    clear hKn
    by_cases hlt : k < s.size
    · have hkn : (k : Int) < (s.size : Int) := by omega
      have hc := str_cells hK (i := k) (by omega)
      rw [HTb.out k hlt] at hc
      have h2 := lowB_lt (bt s k) (bt_lt s k)
      have HF : Hid (plQ s (k + 1) = if lowF s k = 32 ∧ (plQ s k).getLast? = some 32 then plQ s k else plQ s k ++ [lowF s k]) := rfl
      rw [show lowB (bt s k) = lowF s k from rfl] at h2
      obtain ⟨m, hm⟩ : ∃ m, (plQ s k).length = m + 1 := ⟨(plQ s k).length - 1, by have := plQ_ne s k; omega⟩
      have hl := hB.cell m (by omega)
      simp only [Nat.zero_add] at hl
      have HLa := hide (last_of hm)
      obtain ⟨TT, hTT⟩ : ∃ TT, TT = plQ s (k + 1) := ⟨_, rfl⟩
      rw [← hTT] at HF
      have HTT := hide hTT
      clear hO hE hK hB hcv hTT
      generalize lowF s k = c at *
      generalize plQ s k = L at *
      have Hm := hide hm
      have hm2 : m < 4194304 := by have := Hlen.out; omega
      have w1' : wrap64 (((m : Int) + 1) - 1) = m := by unfold wrap64; omega
      generalize L.getD m 0 = d at *
      by_cases h32 : c = 32
      · subst h32
        by_cases hd : d = 32
        · subst hd
          have hT := HF.out
          rw [if_pos ⟨rfl, HLa.out⟩] at hT
          have HT := hide hT
          clear hT HF
          go_wp2
          go_roundw
          case rel => exact ⟨k + 1, by omega, by go_num, by rw [← HTT.out, HT.out, Hm.out]; rw [Hm.out] at HO; exact HO.out, HK.out, by rw [Hm.out] at HKn; exact HKn.out, HE.out⟩
          case measure => simp [intOf]; omega
        · have hdn : (d != 32) = true := by simp [hd]
          have hT := HF.out
          rw [if_neg (by rintro ⟨-, h⟩; rw [HLa.out] at h; simp at h; exact hd h)] at hT
          have HT := hide hT
          have Hd := hide hd
          clear hT HF hd
          go_wp2_with (at_builtin; refine wpList_append_x rfl _ _ 37 rfl w.heap.size 5 i0 (.int .u8 0) 1 Tryz.underlying37 hi hz0 hz1 hz2 rfl _ _ _ rfl (HO.out.alloc _) ⟨wr.heap.size, 0, none⟩ 1 1 [.int .u8 32] rfl rfl (cell_one_new _ _ _) (bys_one _) (by have := Hlen.out; unfold maxLen; omega) (by have := Hlen.out; omega) (by have := Below.size HE.out; simp; omega) ?_; intro v2 w2 hown' hgrow hat; have HN2 := hide (xrow_step HO.out HE.out hown' hgrow); have HK2 := hide (row_apart HKn.out HK.out hgrow hat); clear hown' hgrow hat)
          go_wp2
          go_roundw
          case rel => exact ⟨k + 1, by omega, by go_num, by rw [← HTT.out, HT.out]; exact HN2.out.1, HK2.out.1, HK2.out.2, HN2.out.2⟩
          case measure => simp [intOf]; omega
      · have hcn : (c != 32) = true := by simp [h32]
        have hT := HF.out
        rw [if_neg (fun h => h32 h.1)] at hT
        have HT := hide hT
        have Hc := hide h32
        clear hT HF h32
        go_wp2_with (at_builtin; refine wpList_append_x rfl _ _ 37 rfl w.heap.size 5 i0 (.int .u8 0) 1 Tryz.underlying37 hi hz0 hz1 hz2 rfl _ _ _ rfl (HO.out.alloc _) ⟨wr.heap.size, 0, none⟩ 1 1 [.int .u8 c] rfl rfl (cell_one_new _ _ _) (bys_one _) (by have := Hlen.out; unfold maxLen; omega) (by have := Hlen.out; omega) (by have := Below.size HE.out; simp; omega) ?_; intro v2 w2 hown' hgrow hat; have HN2 := hide (xrow_step HO.out HE.out hown' hgrow); have HK2 := hide (row_apart HKn.out HK.out hgrow hat); clear hown' hgrow hat)
        go_wp2
        go_roundw
        case rel => exact ⟨k + 1, by omega, by go_num, by rw [← HTT.out, HT.out]; exact HN2.out.1, HK2.out.1, HK2.out.2, HN2.out.2⟩
        case measure => simp [intOf]; omega
    · obtain rfl : k = s.size := by omega
      clear hO hE hK hB
      generalize (plQ s s.size).length = n0 at *
      generalize strOfNums (plQ s s.size) = TX at *
      go_wp2_with (go_at_call 187; refine (HTr.out _).mono ?_; rintro e wq ⟨rfl, hEq⟩; have HEq := hide hEq; clear hEq)
      go_ret
      exact ⟨rfl, Ext.trans HE.out HEq.out⟩

/-- Names are the same. -/
def samN (n : Nat) (f g : Nat → ByteArray) : Bool := decide (∀ i, i < n → plainS (f i) = plainS (g i))
def nameB (n m : Nat) (f g : Nat → ByteArray) : Bool := decide (n = m) && samN n f g

set_option maxHeartbeats 800000 in
theorem textSame_any (a b : ByteArray) (ha : a.size ≤ 1048576) (hb : b.size ≤ 1048576) (w : World) :
    Calls Tryz.prog 151 #[.string a, .string b] w fun e w' => e = .returned (.bool (eqS (plainS a) (plainS b))) ∧ Ext w w' := by
  have HA : Hid (∀ w, Calls Tryz.prog 176 #[.string a] w fun e w' => e = .returned (.string (plainS a)) ∧ Ext w w') := fun w => plainText_any a ha w
  have HB : Hid (∀ w, Calls Tryz.prog 176 #[.string b] w fun e w' => e = .returned (.string (plainS b)) ∧ Ext w w') := fun w => plainText_any b hb w
  generalize plainS a = A at *
  generalize plainS b = B at *
  go_enter Tryz.func151, Tryz.ntmps151
  go_wp2_with fail
  refine (HA.out _).mono ?_
  rintro e w1 ⟨rfl, hE1⟩
  have HE1 := hide hE1
  clear hE1
  go_wp2_with fail
  refine (HB.out _).mono ?_
  rintro e w2 ⟨rfl, hE2⟩
  have HE2 := hide hE2
  clear hE2
  go_wp2
  go_ret
  exact ⟨rfl, Ext.trans HE1.out HE2.out⟩


theorem samN_no {n k : Nat} {f g : Nat → ByteArray} (hk : k < n) (h : eqS (plainS (f k)) (plainS (g k)) = false) : samN n f g = false := by
  refine decide_eq_false (fun a => ?_)
  rw [a k hk, eqS_refl] at h
  cases h
theorem samN_yes {n : Nat} {f g : Nat → ByteArray} (h : ∀ i, i < n → eqS (plainS (f i)) (plainS (g i)) = true) : samN n f g = true := decide_eq_true (fun i hi => (eqS_iff _ _).1 (h i hi))

set_option maxHeartbeats 1600000 in
set_option maxRecDepth 100000 in
theorem equalFunc_any (a : Option Addr) (b off n cap : Nat) (f : Nat → ByteArray) (a2 : Option Addr) (b2 off2 m cap2 : Nat) (g : Nat → ByteArray) (w : World) (hs : SSeg w a b off n f) (hs2 : SSeg w a2 b2 off2 m g) (hn : n ≤ 1048576) (hm : m ≤ 1048576) (hf : ∀ i, i < n → (f i).size ≤ 1048576) (hg : ∀ i, i < m → (g i).size ≤ 1048576) :
    Calls Tryz.prog 150 #[.slice a n cap, .slice a2 m cap2, .func (.func 151) #[] #[]] w fun e w' => e = .returned (.bool (nameB n m f g)) ∧ Ext w w' := by
  by_cases hnm : n = m
  · subst hnm
    have HV : Hid (nameB n n f g = samN n f g) := by show _ = _; unfold nameB; simp
    rw [HV.out]
    have HSs : Hid (∀ i, i < n → ∀ w, Calls Tryz.prog 151 #[.string (f i), .string (g i)] w fun e w' => e = .returned (.bool (eqS (plainS (f i)) (plainS (g i)))) ∧ Ext w w') := fun i hi w => textSame_any _ _ (hf i hi) (hg i hi) w
    have Hs := hide hs
    have Hs2 := hide hs2
    obtain ⟨R, hR⟩ : ∃ R, R = samN n f g := ⟨_, rfl⟩
    rw [← hR]
    have HR := hide hR
    clear hs hs2 hf hg HV hR
    go_enter Tryz.func150, Tryz.ntmps150
    go_wp2
    go_loopw [17] (fun i wr => ∃ k : Nat, k ≤ n ∧ i = .int .i64 (k : Int) ∧ (∀ j, j < k → eqS (plainS (f j)) (plainS (g j)) = true) ∧ Ext w wr) (fun i _ => n - (intOf i).toNat)
    case atStart => exact ⟨0, Nat.zero_le _, rfl, fun j hj => absurd hj (Nat.not_lt_zero _), Ext.refl _⟩
    case round =>
      obtain ⟨k, hk, rfl, hd, hE⟩ := hrel
      have HD := hide hd
      have HE := hide hE
      by_cases hlt : k < n
      · obtain rfl := Hs.out.at' (by omega)
        obtain rfl := Hs2.out.at' (by omega)
        have c1 := (Hs.out.of_all hE).cell k hlt
        have c2 := (Hs2.out.of_all hE).cell k hlt
        have hkn : (k : Int) < (n : Int) := by omega
        have HX := hide (HSs.out k hlt)
        obtain ⟨q, hq⟩ : ∃ q, eqS (plainS (f k)) (plainS (g k)) = q := ⟨_, rfl⟩
        rw [hq] at HX
        have Hq := hide hq
        clear hd hE hq
        go_wp2_with fail
        refine (HX.out _).mono ?_
        rintro e w1 ⟨rfl, hE1⟩
        have HE1 := hide hE1
        clear hE1
        cases q
        · go_wp2
          go_ret
          exact ⟨ret_bool (by rw [HR.out, samN_no hlt Hq.out]), Ext.trans HE.out HE1.out⟩
        · go_wp2
          go_roundw
          case rel => exact ⟨k + 1, by omega, by go_num, fun j hj => by
                        by_cases e : j = k
                        · subst e; exact Hq.out
                        · exact HD.out j (by omega), Ext.trans HE.out HE1.out⟩
          case measure => simp [intOf]; omega
      · obtain rfl : k = n := by omega
        clear hd hE
        go_wp2
        go_ret
        exact ⟨ret_bool (by rw [HR.out, samN_yes HD.out]), HE.out⟩
  · have hne : ((n : Int) != (m : Int)) = true := by simp; omega
    have HV : Hid (nameB n m f g = false) := by show _ = _; unfold nameB; simp [hnm]
    rw [HV.out]
    go_enter Tryz.func150, Tryz.ntmps150
    go_wp2
    go_ret
    exact ⟨rfl, Ext.refl _⟩

set_option maxHeartbeats 800000 in
theorem implNameSame_any (a : Option Addr) (b off n cap : Nat) (f : Nat → ByteArray) (a2 : Option Addr) (b2 off2 m cap2 : Nat) (g : Nat → ByteArray) (w : World) (hs : SSeg w a b off n f) (hs2 : SSeg w a2 b2 off2 m g) (hn : n ≤ 1048576) (hm : m ≤ 1048576) (hf : ∀ i, i < n → (f i).size ≤ 1048576) (hg : ∀ i, i < m → (g i).size ≤ 1048576) :
    Calls Tryz.prog 114 #[.slice a n cap, .slice a2 m cap2] w fun e w' => e = .returned (.bool (nameB n m f g)) ∧ Ext w w' := by
  have HX := hide (equalFunc_any a b off n cap f a2 b2 off2 m cap2 g w hs hs2 hn hm hf hg)
  clear hs hs2 hf hg
  generalize nameB n m f g = R at *
  go_enter Tryz.func114, Tryz.ntmps114
  go_wp2_with fail
  refine HX.out.mono ?_
  rintro e w1 ⟨rfl, hE1⟩
  have HE1 := hide hE1
  clear hE1
  go_wp2
  go_ret
  exact ⟨rfl, HE1.out⟩

set_option maxHeartbeats 1600000 in
set_option maxRecDepth 100000 in
theorem specNameSame_any (a : Option Addr) (b off n cap : Nat) (f : Nat → ByteArray) (a2 : Option Addr) (b2 off2 m cap2 : Nat) (g : Nat → ByteArray) (w : World) (hs : SSeg w a b off n f) (hs2 : SSeg w a2 b2 off2 m g) (hn : n ≤ 1048576) (hm : m ≤ 1048576) (hf : ∀ i, i < n → (f i).size ≤ 1048576) (hg : ∀ i, i < m → (g i).size ≤ 1048576) :
    Calls Tryz.prog 84 #[.slice a n cap, .slice a2 m cap2] w fun e w' => e = .returned (.bool (nameB n m f g)) ∧ Ext w w' := by
  by_cases hnm : n = m
  · subst hnm
    have HV : Hid (nameB n n f g = samN n f g) := by show _ = _; unfold nameB; simp
    rw [HV.out]
    have HA : Hid (∀ i, i < n → ∀ w, Calls Tryz.prog 113 #[.string (f i)] w fun e w' => e = .returned (.string (plainS (f i))) ∧ Ext w w') := fun i hi w => l10Plain_any _ (hf i hi) w
    have HB : Hid (∀ i, i < n → ∀ w, Calls Tryz.prog 113 #[.string (g i)] w fun e w' => e = .returned (.string (plainS (g i))) ∧ Ext w w') := fun i hi w => l10Plain_any _ (hg i hi) w
    have Hs := hide hs
    have Hs2 := hide hs2
    obtain ⟨R, hR⟩ : ∃ R, R = samN n f g := ⟨_, rfl⟩
    rw [← hR]
    have HR := hide hR
    clear hs hs2 hf hg HV hR
    go_enter Tryz.func84, Tryz.ntmps84
    go_wp2
    go_loopw [5] (fun i wr => ∃ k : Nat, k ≤ n ∧ i = .int .i64 (k : Int) ∧ (∀ j, j < k → eqS (plainS (f j)) (plainS (g j)) = true) ∧ Ext w wr) (fun i _ => n - (intOf i).toNat)
    case atStart => exact ⟨0, Nat.zero_le _, rfl, fun j hj => absurd hj (Nat.not_lt_zero _), Ext.refl _⟩
    case round =>
      obtain ⟨k, hk, rfl, hd, hE⟩ := hrel
      have HD := hide hd
      have HE := hide hE
      by_cases hlt : k < n
      · obtain rfl := Hs.out.at' (by omega)
        obtain rfl := Hs2.out.at' (by omega)
        have c1 := (Hs.out.of_all hE).cell k hlt
        have c2 := (Hs2.out.of_all hE).cell k hlt
        have k1 := cell_regrown c1
        have k2 := cell_regrown c2
        have hkn : (k : Int) < (n : Int) := by omega
        have HX : Hid (∀ d os, Calls Tryz.prog 113 #[.string (f k)] (Sort.grow (redrawn wr d) os) fun e w'' => e = .returned (.string (plainS (f k))) ∧ ∃ p : Regrown, w'' = Sort.grow (redrawn wr p.d) p.os) := fun d os => Calls.regrown_of (HA.out k hlt _)
        have HY : Hid (∀ d os, Calls Tryz.prog 113 #[.string (g k)] (Sort.grow (redrawn wr d) os) fun e w'' => e = .returned (.string (plainS (g k))) ∧ ∃ p : Regrown, w'' = Sort.grow (redrawn wr p.d) p.os) := fun d os => Calls.regrown_of (HB.out k hlt _)
        obtain ⟨q, hq⟩ : ∃ q, eqS (plainS (f k)) (plainS (g k)) = q := ⟨_, rfl⟩
        have Hq := hide hq
        have hne : ((plainS (f k)).toList == (plainS (g k)).toList) = q := hq
        clear hd hE hq
        generalize plainS (f k) = A at HX hne
        generalize plainS (g k) = B at HY hne
        generalize f k = fk at HX c1 k1
        generalize g k = gk at HY c2 k2
        go_wp2_with fail
        refine wp_region_quiet_below (by kernel_rfl) (by kernel_rfl) ?_
        repeat (first | go_big_quiet_step (first | (go_at_call_of 113 (fk); exact HX.out _ _) | (go_at_call_of 113 (gk); exact HY.out _ _)) | quiet_step (first | (go_at_call_of 113 (fk); exact HX.out _ _) | (go_at_call_of 113 (gk); exact HY.out _ _)))
        refine wpQuiet_nil ?_
        intro _ hw'
        obtain ⟨⟨dq, osq⟩, hw''⟩ := hw'
        subst hw''
        have HE1 : Hid (Ext wr (Sort.grow (redrawn wr dq) osq)) := hide (below_regrown wr dq osq)
        cases q
        · go_wp2
          go_ret
          exact ⟨ret_bool (by rw [HR.out, samN_no hlt Hq.out]), Ext.trans HE.out HE1.out⟩
        · go_wp2
          go_roundw
          case rel => exact ⟨k + 1, by omega, by go_num, fun j hj => by
                        by_cases e : j = k
                        · subst e; exact Hq.out
                        · exact HD.out j (by omega), Ext.trans HE.out HE1.out⟩
          case measure => simp [intOf]; omega
      · obtain rfl : k = n := by omega
        clear hd hE
        go_wp2
        go_ret
        exact ⟨ret_bool (by rw [HR.out, samN_yes HD.out]), HE.out⟩
  · have hne : ((n : Int) == (m : Int)) = false := by simp; omega
    have HV : Hid (nameB n m f g = false) := by show _ = _; unfold nameB; simp [hnm]
    rw [HV.out]
    by_cases h0 : 0 < n
    · have g0 : (0 : Int) < (n : Int) := by omega
      go_enter Tryz.func84, Tryz.ntmps84
      go_wp2
      go_rounds 2
      go_ret
      exact ⟨rfl, Ext.refl _⟩
    · have g0 : ¬ (0 : Int) < (n : Int) := by omega
      go_enter Tryz.func84, Tryz.ntmps84
      go_wp2
      go_rounds 2
      go_ret
      exact ⟨rfl, Ext.refl _⟩
end

end Go.Proofs.YtigjjkondbdgjaaGreatDoor
