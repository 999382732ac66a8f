/- Walks: the model's l5Digest. -/
import Derived.Test.YtjkojofpkeglpabShaM
import Derived.Test.YtjkojofpkeglpabShaT
namespace Go.Proofs.Ytjkojofpkeglpab
set_option linter.unusedVariables false
set_option linter.unusedSimpArgs false
open Go.RowKit

theorem grw_below {S : Nat} {w w' : World} (h : Below S w w') : Grw (fun k => S ≤ k) w w' := ⟨h.os, h.tape, h.output, h.size, fun k _ hn => h.block k (by simp at hn; omega)⟩

theorem stB_stepM (u : Nat → Int) (t : Nat) : ∀ i, i < 4 * t + 4 → catF (stB u) (4 * t) (wb (u t)) i = stB u i := by
  intro i hi
  unfold catF
  split
  · rfl
  · unfold stB
    rw [show i / 4 = t by omega, show i % 4 = i - 4 * t by omega]

/-- What is hashed at last. -/
def tailF (f : Nat → Int) (n many : Nat) : Nat → Int := catF f n (padV many)
theorem tailF_low (f : Nat → Int) (n many : Nat) {i : Nat} (h : i < n) : tailF f n many i = f i := by unfold tailF catF; rw [if_pos h]
theorem tailF_high (f : Nat → Int) (n many i : Nat) : tailF f n many (n + i) = padV many i := by unfold tailF catF; rw [if_neg (by omega), Nat.add_sub_cancel_left]
theorem tail_one (x : Int) (f : Nat → Int) (k : Nat) (h : f k = x) : byts f k ++ [.int .u8 x] = byts f (k + 1) := by rw [byts_succ, h]

/-- A list of one byte. -/
theorem one_new (w : World) (x : Int) : BSeg (w.alloc (.cells #[.int .u8 x] 5)) (some ⟨w.heap.size, 0, none⟩) w.heap.size 0 1 (fun _ => x) := ⟨fun _ => rfl, fun i hi => by
  have : i = 0 := by omega
  subst this
  exact (Blk.alloc w [.int .u8 x] 5 0 _ rfl).1⟩

/-- In mid-Digest of the model: the stream's block, the tail. -/
structure AtD (w wr : World) (h : Nat → Int) (r : Option Addr) (n cap : Nat) (many : Int) (T : Nat → Int) (k : Nat) (d : Value) : Prop where
  ext : Ext w wr
  str : Blk wr w.heap.size [.int .i64 (h 0), .int .i64 (h 1), .int .i64 (h 2), .int .i64 (h 3), .int .i64 (h 4), .int .i64 (h 5), .int .i64 (h 6), .int .i64 (h 7), .slice r n cap, .int .i64 many]
  tail : wr.ownsRow (w.heap.size + 1) 5 1 d k (byts T k)

set_option maxHeartbeats 6400000 in
set_option maxRecDepth 100000 in
theorem l5Digest_any (h : Nat → Int) (r : Option Addr) (b off n cap : Nat) (f : Nat → Int) (many : Nat) (w : World) (hb8 : ∀ i, i < 8 → 0 ≤ h i ∧ h i < 4294967296) (hmx : many ≤ 20000) (hn : n = many % 64) (hs : BSeg w r b off n f) (hby : ∀ i, i < n → 0 ≤ f i ∧ f i < 256) :
    Calls Try.prog 78 #[.agg #[.int .i64 (h 0), .int .i64 (h 1), .int .i64 (h 2), .int .i64 (h 3), .int .i64 (h 4), .int .i64 (h 5), .int .i64 (h 6), .int .i64 (h 7), .slice r n cap, .int .i64 (many : Int)]] w fun e w' => GivesR w 32 (stB (blocksV h (catF f n (padV many)) ((n + (9 + padZ many)) / 64))) e w' := by
  have HBk := hide l5Block_any
  obtain ⟨z, hz⟩ : ∃ z, padZ many = z := ⟨_, rfl⟩
  have hz64 : (n + 1 + z) % 64 = 56 := by rw [← hz, hn]; unfold padZ; omega
  have hzl : z < 64 := by rw [← hz]; exact padZ_lt _
  have hzf : ∀ k, k < z → (n + 1 + k) % 64 ≠ 56 := by intro k hk; rw [← hz] at hk; rw [hn]; unfold padZ at hk; omega
  obtain ⟨T, hT⟩ : ∃ T : Nat → Int, catF f n (padV many) = T := ⟨_, rfl⟩
  have hT0 : ∀ i, i < n → T i = f i := fun i hi => by rw [← hT]; exact tailF_low f n many hi
  have hT1 : ∀ i, T (n + i) = padV many i := fun i => by rw [← hT]; exact tailF_high f n many i
  have HY : Hid (∀ i, i < n + 9 + z → 0 ≤ T i ∧ T i < 256) := hide (fun i hi => by
    by_cases e : i < n
    · rw [hT0 i e]; exact hby i e
    · rw [show i = n + (i - n) by omega, hT1]; exact padV_bound many hmx _)
  rw [hT, hz, show n + (9 + z) = n + 9 + z by omega]
  have P0 : T n = 128 := by have := hT1 0; rw [Nat.add_zero] at this; rw [this]; unfold padV; rw [if_pos rfl]
  have Pz : ∀ k, k < z → T (n + 1 + k) = 0 := fun k hk => by rw [show n + 1 + k = n + (1 + k) by omega, hT1]; unfold padV; rw [hz, if_neg (by omega), if_pos (by omega)]
  have Pw : ∀ t, t < 8 → T (n + 1 + z + t) = if t < 4 then 0 else wb (8 * many) (t - 4) := fun t ht => by
    rw [show n + 1 + z + t = n + (1 + z + t) by omega, hT1]; unfold padV; rw [hz, if_neg (by omega)]
    by_cases e : t < 4
    · rw [if_pos (by omega), if_pos e]
    · rw [if_neg (by omega), if_neg e, show 1 + z + t - (5 + z) = t - 4 by omega]
  have hn64 : n < 64 := by omega
  have HT0 := hide hT0
  have HP0 := hide P0
  have HPz := hide Pz
  have HPw := hide Pw
  have Hzf := hide hzf
  have Hz64 := hide hz64
  have H8 := hide hb8
  clear hT hT0 hT1 hby hz P0 Pz Pw hzf hz64 hb8 hn
  go_enter Try.func78, Try.ntmps78
  go_wp2_with fail
  obtain ⟨V, hV⟩ : ∃ V, w.alloc (.cells #[.int .i64 (h 0), .int .i64 (h 1), .int .i64 (h 2), .int .i64 (h 3), .int .i64 (h 4), .int .i64 (h 5), .int .i64 (h 6), .int .i64 (h 7), .slice r n cap, .int .i64 (many : Int)] 62) = V := ⟨_, rfl⟩
  obtain ⟨B1, hE, hzV⟩ := box1 w [.int .i64 (h 0), .int .i64 (h 1), .int .i64 (h 2), .int .i64 (h 3), .int .i64 (h 4), .int .i64 (h 5), .int .i64 (h 6), .int .i64 (h 7), .slice r n cap, .int .i64 (many : Int)] 62 (hV ▸ Ext.refl _ : Ext _ V)
  simp only [hV]
  clear hV
  refine (l1Bytes_any r b off n cap f V (hs.of_all hE) (by omega)).mono ?_
  rintro e w1 ⟨v1, rfl, hO1, h1⟩
  have HO1 := hide ((owns_mono hO1 hzV).alloc (.cells #[.int .u8 128] 5))
  have HN1 := hide (one_new w1 128)
  have HB1 := hide ((B1.ext h1 (by omega)).ext (Ext.alloc w1 (.cells #[.int .u8 128] 5)) (Nat.lt_of_lt_of_le (by omega) (Below.size h1)))
  have HE1 := hide ((hE.trans h1).trans (Ext.alloc w1 (.cells #[.int .u8 128] 5)))
  have Hsz : Hid (w.heap.size + 1 ≤ (w1.alloc (.cells #[.int .u8 128] 5)).heap.size) := hide (by rw [World.size_alloc]; have := Below.size h1; omega)
  clear B1 hE hs hO1 h1
  go_wp2_with (at_builtin; refine wpList_append_bs rfl _ _ rfl (w.heap.size + 1) _ n (byts f n) rfl HO1.out _ w1.heap.size 0 1 1 (fun _ => 128) rfl HN1.out (by omega) Hsz.out ?_)
  intro v2 w2 hO2 h2
  have hA : AtD w w2 h r n cap many T (n + 1) v2 := by
    refine ⟨Below.trans HE1.out (h2.mono (by omega)), HB1.out.below h2 (by omega), ?_⟩
    have e1 : byts f n ++ byts (fun _ => 128) 1 = byts T (n + 1) := by
      rw [byts_congr (fun i hi => (HT0.out i hi).symm)]
      exact tail_one 128 T n HP0.out
    rw [e1] at hO2
    exact hO2
  have HA := hide hA
  clear hA hO2 h2 HO1 HN1 HB1 HE1 Hsz hzV
  go_wp2
  rename_i K hK
  have HK := hide hK
  clear hK
  go_loopw [4] (fun d wr => ∃ k : Nat, k ≤ z ∧ AtD w wr h r n cap many T (n + 1 + k) d) (fun d _ => n + 1 + z - (match d with | .slice _ n _ => n | _ => 0))
  case atStart => exact ⟨0, by omega, HA.out⟩
  case round =>
    clear HA
    obtain ⟨k, hk, hat⟩ := hrel
    obtain ⟨ta, tg, tc, rfl, -, -, -, -⟩ := owns_seg hat.tail
    have HD := hide hat
    clear hat
    by_cases hlt : k < z
    · have hne : (((n + 1 + k : Nat) : Int) % 64 != 56) = true := by
        have := Hzf.out k hlt
        simp
        omega
      have HV : Hid (T (n + 1 + k) = 0) := hide (HPz.out k hlt)
      obtain ⟨kk, hkk⟩ : ∃ kk, n + 1 + k = kk := ⟨_, rfl⟩
      rw [hkk] at HD hne HV ⊢
      have HO1 := hide (HD.out.tail.alloc (.cells #[.int .u8 0] 5))
      have HN1 := hide (one_new wr 0)
      have HB1 := hide (HD.out.str.ext (Ext.alloc wr (.cells #[.int .u8 0] 5)) (World.block_lt_of_cell? _ _ (HD.out.str 0 _ rfl).1))
      have HE1 := hide (HD.out.ext.trans (Ext.alloc wr (.cells #[.int .u8 0] 5)))
      have Hsz : Hid (w.heap.size + 1 ≤ (wr.alloc (.cells #[.int .u8 0] 5)).heap.size) := hide (by rw [World.size_alloc]; have : w.heap.size < wr.heap.size := World.block_lt_of_cell? _ _ (HD.out.str 0 _ rfl).1; omega)
      clear HD
      go_wp2_with (at_builtin; refine wpList_append_bs rfl _ _ rfl (w.heap.size + 1) _ (kk) (byts T (kk)) rfl HO1.out _ wr.heap.size 0 1 1 (fun _ => 0) rfl HN1.out (by omega) Hsz.out ?_)
      intro v2 w2 hO2 h2
      have hA : AtD w w2 h r n cap many T (kk + 1) v2 := by
        refine ⟨Below.trans HE1.out (h2.mono (by omega)), HB1.out.below h2 (by omega), ?_⟩
        have e1 : byts T (kk) ++ byts (fun _ => 0) 1 = byts T (kk + 1) := tail_one 0 T (kk) HV.out
        rw [e1] at hO2
        exact hO2
      have HA := hide hA
      clear hA hO2 h2 HO1 HN1 HB1 HE1 Hsz
      go_wp2
      go_roundw
      case rel => exact ⟨k + 1, by omega, by rw [show n + 1 + (k + 1) = kk + 1 by omega]; exact HA.out⟩
      case measure =>
        obtain ⟨xa, xg, xc, rfl, -, -, -, -⟩ := owns_seg HA.out.tail
        simp
        omega
    · have e : k = z := by omega
      subst e
      have hne : (((n + 1 + k : Nat) : Int) % 64 != 56) = false := by
        have := Hz64.out
        simp
        omega
      obtain ⟨kk, hkk⟩ : ∃ kk, n + 1 + k = kk := ⟨_, rfl⟩
      rw [hkk] at HD hne ⊢
      have Hkk := hide hkk
      have kkb : kk ≤ 128 := by omega
      clear hkk
      go_wp2
      apply HK.out
      clear HK
      go_wp2
      rename_i K hK
      have HK := hide hK
      clear hK
      go_loopw [4, 5] (fun d i wr => ∃ t : Nat, t ≤ 8 ∧ i = .int .i64 (7 - (t : Int)) ∧ AtD w wr h r n cap many T (kk + t) d) (fun _ i _ => (intOf i + 1).toNat)
      case atStart => exact ⟨0, by omega, rfl, HD.out⟩
      case round =>
      clear HD
      obtain ⟨t, ht, rfl, hat⟩ := hrel
      have HD := hide hat
      clear hat
      by_cases hlt : t < 8
      · have h70 : (0 : Int) ≤ 7 - (t : Int) := by omega
        obtain ⟨x, hx⟩ : ∃ x, T (kk + t) = x := ⟨_, rfl⟩
        have hw := HPw.out t hlt
        rw [Hkk.out, hx] at hw
        have HV := hide hx
        have H9 := hide hw
        clear hx hw
        have tt : t = 0 ∨ t = 1 ∨ t = 2 ∨ t = 3 ∨ t = 4 ∨ t = 5 ∨ t = 6 ∨ t = 7 := by omega
        rcases tt with rfl | rfl | rfl | rfl | rfl | rfl | rfl | rfl
        · have e9 : x = 0 := H9.out
          have r1 : IntKind.u8.wrap (8 * (many : Int) / 72057594037927936) = x := by (rw [e9, IntKind.wrap_u8]) ; try omega
          have r2 : 8 * (many : Int) / 72057594037927936 % 256 = x := by (rw [e9]) ; try omega
          clear e9 H9
          have HO1 := hide (HD.out.tail.alloc (.cells #[.int .u8 x] 5))
          have HN1 := hide (one_new wr x)
          have HB1 := hide (HD.out.str.ext (Ext.alloc wr (.cells #[.int .u8 x] 5)) (World.block_lt_of_cell? _ _ (HD.out.str 0 _ rfl).1))
          have HE1 := hide (HD.out.ext.trans (Ext.alloc wr (.cells #[.int .u8 x] 5)))
          have Hsz : Hid (w.heap.size + 1 ≤ (wr.alloc (.cells #[.int .u8 x] 5)).heap.size) := hide (by rw [World.size_alloc]; have : w.heap.size < wr.heap.size := World.block_lt_of_cell? _ _ (HD.out.str 0 _ rfl).1; omega)
          clear HD
          go_wp2_with (at_builtin; refine wpList_append_bs rfl _ _ rfl (w.heap.size + 1) _ (kk) (byts T (kk)) rfl HO1.out _ wr.heap.size 0 1 1 (fun _ => x) rfl HN1.out (by omega) Hsz.out ?_)
          intro v2 w2 hO2 h2
          have hA : AtD w w2 h r n cap many T (kk + 1) v2 := by
            refine ⟨Below.trans HE1.out (h2.mono (by omega)), HB1.out.below h2 (by omega), ?_⟩
            have e1 : byts T (kk) ++ byts (fun _ => x) 1 = byts T (kk + 1) := tail_one x T (kk) HV.out
            rw [e1] at hO2
            exact hO2
          have HA := hide hA
          clear hA hO2 h2 HO1 HN1 HB1 HE1 Hsz
          go_wp2
          go_roundw
          case rel => exact ⟨0 + 1, by omega, by go_num, HA.out⟩
          case measure => simp [intOf]
        · have e9 : x = 0 := H9.out
          have r1 : IntKind.u8.wrap (8 * (many : Int) / 281474976710656) = x := by (rw [e9, IntKind.wrap_u8]) ; try omega
          have r2 : 8 * (many : Int) / 281474976710656 % 256 = x := by (rw [e9]) ; try omega
          clear e9 H9
          have HO1 := hide (HD.out.tail.alloc (.cells #[.int .u8 x] 5))
          have HN1 := hide (one_new wr x)
          have HB1 := hide (HD.out.str.ext (Ext.alloc wr (.cells #[.int .u8 x] 5)) (World.block_lt_of_cell? _ _ (HD.out.str 0 _ rfl).1))
          have HE1 := hide (HD.out.ext.trans (Ext.alloc wr (.cells #[.int .u8 x] 5)))
          have Hsz : Hid (w.heap.size + 1 ≤ (wr.alloc (.cells #[.int .u8 x] 5)).heap.size) := hide (by rw [World.size_alloc]; have : w.heap.size < wr.heap.size := World.block_lt_of_cell? _ _ (HD.out.str 0 _ rfl).1; omega)
          clear HD
          go_wp2_with (at_builtin; refine wpList_append_bs rfl _ _ rfl (w.heap.size + 1) _ (kk + 1) (byts T (kk + 1)) rfl HO1.out _ wr.heap.size 0 1 1 (fun _ => x) rfl HN1.out (by omega) Hsz.out ?_)
          intro v2 w2 hO2 h2
          have hA : AtD w w2 h r n cap many T (kk + 1 + 1) v2 := by
            refine ⟨Below.trans HE1.out (h2.mono (by omega)), HB1.out.below h2 (by omega), ?_⟩
            have e1 : byts T (kk + 1) ++ byts (fun _ => x) 1 = byts T (kk + 1 + 1) := tail_one x T (kk + 1) HV.out
            rw [e1] at hO2
            exact hO2
          have HA := hide hA
          clear hA hO2 h2 HO1 HN1 HB1 HE1 Hsz
          go_wp2
          go_roundw
          case rel => exact ⟨1 + 1, by omega, by go_num, HA.out⟩
          case measure => simp [intOf]
        · have e9 : x = 0 := H9.out
          have r1 : IntKind.u8.wrap (8 * (many : Int) / 1099511627776) = x := by (rw [e9, IntKind.wrap_u8]) ; try omega
          have r2 : 8 * (many : Int) / 1099511627776 % 256 = x := by (rw [e9]) ; try omega
          clear e9 H9
          have HO1 := hide (HD.out.tail.alloc (.cells #[.int .u8 x] 5))
          have HN1 := hide (one_new wr x)
          have HB1 := hide (HD.out.str.ext (Ext.alloc wr (.cells #[.int .u8 x] 5)) (World.block_lt_of_cell? _ _ (HD.out.str 0 _ rfl).1))
          have HE1 := hide (HD.out.ext.trans (Ext.alloc wr (.cells #[.int .u8 x] 5)))
          have Hsz : Hid (w.heap.size + 1 ≤ (wr.alloc (.cells #[.int .u8 x] 5)).heap.size) := hide (by rw [World.size_alloc]; have : w.heap.size < wr.heap.size := World.block_lt_of_cell? _ _ (HD.out.str 0 _ rfl).1; omega)
          clear HD
          go_wp2_with (at_builtin; refine wpList_append_bs rfl _ _ rfl (w.heap.size + 1) _ (kk + 2) (byts T (kk + 2)) rfl HO1.out _ wr.heap.size 0 1 1 (fun _ => x) rfl HN1.out (by omega) Hsz.out ?_)
          intro v2 w2 hO2 h2
          have hA : AtD w w2 h r n cap many T (kk + 2 + 1) v2 := by
            refine ⟨Below.trans HE1.out (h2.mono (by omega)), HB1.out.below h2 (by omega), ?_⟩
            have e1 : byts T (kk + 2) ++ byts (fun _ => x) 1 = byts T (kk + 2 + 1) := tail_one x T (kk + 2) HV.out
            rw [e1] at hO2
            exact hO2
          have HA := hide hA
          clear hA hO2 h2 HO1 HN1 HB1 HE1 Hsz
          go_wp2
          go_roundw
          case rel => exact ⟨2 + 1, by omega, by go_num, HA.out⟩
          case measure => simp [intOf]
        · have e9 : x = 0 := H9.out
          have r1 : IntKind.u8.wrap (8 * (many : Int) / 4294967296) = x := by (rw [e9, IntKind.wrap_u8]) ; try omega
          have r2 : 8 * (many : Int) / 4294967296 % 256 = x := by (rw [e9]) ; try omega
          clear e9 H9
          have HO1 := hide (HD.out.tail.alloc (.cells #[.int .u8 x] 5))
          have HN1 := hide (one_new wr x)
          have HB1 := hide (HD.out.str.ext (Ext.alloc wr (.cells #[.int .u8 x] 5)) (World.block_lt_of_cell? _ _ (HD.out.str 0 _ rfl).1))
          have HE1 := hide (HD.out.ext.trans (Ext.alloc wr (.cells #[.int .u8 x] 5)))
          have Hsz : Hid (w.heap.size + 1 ≤ (wr.alloc (.cells #[.int .u8 x] 5)).heap.size) := hide (by rw [World.size_alloc]; have : w.heap.size < wr.heap.size := World.block_lt_of_cell? _ _ (HD.out.str 0 _ rfl).1; omega)
          clear HD
          go_wp2_with (at_builtin; refine wpList_append_bs rfl _ _ rfl (w.heap.size + 1) _ (kk + 3) (byts T (kk + 3)) rfl HO1.out _ wr.heap.size 0 1 1 (fun _ => x) rfl HN1.out (by omega) Hsz.out ?_)
          intro v2 w2 hO2 h2
          have hA : AtD w w2 h r n cap many T (kk + 3 + 1) v2 := by
            refine ⟨Below.trans HE1.out (h2.mono (by omega)), HB1.out.below h2 (by omega), ?_⟩
            have e1 : byts T (kk + 3) ++ byts (fun _ => x) 1 = byts T (kk + 3 + 1) := tail_one x T (kk + 3) HV.out
            rw [e1] at hO2
            exact hO2
          have HA := hide hA
          clear hA hO2 h2 HO1 HN1 HB1 HE1 Hsz
          go_wp2
          go_roundw
          case rel => exact ⟨3 + 1, by omega, by go_num, HA.out⟩
          case measure => simp [intOf]
        · have e9 : x = 8 * (many : Int) / 16777216 := H9.out
          have r1 : IntKind.u8.wrap (8 * (many : Int) / 16777216) = x := by (rw [e9, IntKind.wrap_u8]) ; try omega
          have r2 : 8 * (many : Int) / 16777216 % 256 = x := by (rw [e9]) ; try omega
          clear e9 H9
          have HO1 := hide (HD.out.tail.alloc (.cells #[.int .u8 x] 5))
          have HN1 := hide (one_new wr x)
          have HB1 := hide (HD.out.str.ext (Ext.alloc wr (.cells #[.int .u8 x] 5)) (World.block_lt_of_cell? _ _ (HD.out.str 0 _ rfl).1))
          have HE1 := hide (HD.out.ext.trans (Ext.alloc wr (.cells #[.int .u8 x] 5)))
          have Hsz : Hid (w.heap.size + 1 ≤ (wr.alloc (.cells #[.int .u8 x] 5)).heap.size) := hide (by rw [World.size_alloc]; have : w.heap.size < wr.heap.size := World.block_lt_of_cell? _ _ (HD.out.str 0 _ rfl).1; omega)
          clear HD
          go_wp2_with (at_builtin; refine wpList_append_bs rfl _ _ rfl (w.heap.size + 1) _ (kk + 4) (byts T (kk + 4)) rfl HO1.out _ wr.heap.size 0 1 1 (fun _ => x) rfl HN1.out (by omega) Hsz.out ?_)
          intro v2 w2 hO2 h2
          have hA : AtD w w2 h r n cap many T (kk + 4 + 1) v2 := by
            refine ⟨Below.trans HE1.out (h2.mono (by omega)), HB1.out.below h2 (by omega), ?_⟩
            have e1 : byts T (kk + 4) ++ byts (fun _ => x) 1 = byts T (kk + 4 + 1) := tail_one x T (kk + 4) HV.out
            rw [e1] at hO2
            exact hO2
          have HA := hide hA
          clear hA hO2 h2 HO1 HN1 HB1 HE1 Hsz
          go_wp2
          go_roundw
          case rel => exact ⟨4 + 1, by omega, by go_num, HA.out⟩
          case measure => simp [intOf]
        · have e9 : x = 8 * (many : Int) / 65536 % 256 := H9.out
          have r1 : IntKind.u8.wrap (8 * (many : Int) / 65536) = x := by (rw [e9, IntKind.wrap_u8]) ; try omega
          have r2 : 8 * (many : Int) / 65536 % 256 = x := by (rw [e9]) ; try omega
          clear e9 H9
          have HO1 := hide (HD.out.tail.alloc (.cells #[.int .u8 x] 5))
          have HN1 := hide (one_new wr x)
          have HB1 := hide (HD.out.str.ext (Ext.alloc wr (.cells #[.int .u8 x] 5)) (World.block_lt_of_cell? _ _ (HD.out.str 0 _ rfl).1))
          have HE1 := hide (HD.out.ext.trans (Ext.alloc wr (.cells #[.int .u8 x] 5)))
          have Hsz : Hid (w.heap.size + 1 ≤ (wr.alloc (.cells #[.int .u8 x] 5)).heap.size) := hide (by rw [World.size_alloc]; have : w.heap.size < wr.heap.size := World.block_lt_of_cell? _ _ (HD.out.str 0 _ rfl).1; omega)
          clear HD
          go_wp2_with (at_builtin; refine wpList_append_bs rfl _ _ rfl (w.heap.size + 1) _ (kk + 5) (byts T (kk + 5)) rfl HO1.out _ wr.heap.size 0 1 1 (fun _ => x) rfl HN1.out (by omega) Hsz.out ?_)
          intro v2 w2 hO2 h2
          have hA : AtD w w2 h r n cap many T (kk + 5 + 1) v2 := by
            refine ⟨Below.trans HE1.out (h2.mono (by omega)), HB1.out.below h2 (by omega), ?_⟩
            have e1 : byts T (kk + 5) ++ byts (fun _ => x) 1 = byts T (kk + 5 + 1) := tail_one x T (kk + 5) HV.out
            rw [e1] at hO2
            exact hO2
          have HA := hide hA
          clear hA hO2 h2 HO1 HN1 HB1 HE1 Hsz
          go_wp2
          go_roundw
          case rel => exact ⟨5 + 1, by omega, by go_num, HA.out⟩
          case measure => simp [intOf]
        · have e9 : x = 8 * (many : Int) / 256 % 256 := H9.out
          have r1 : IntKind.u8.wrap (8 * (many : Int) / 256) = x := by (rw [e9, IntKind.wrap_u8]) ; try omega
          have r2 : 8 * (many : Int) / 256 % 256 = x := by (rw [e9]) ; try omega
          clear e9 H9
          have HO1 := hide (HD.out.tail.alloc (.cells #[.int .u8 x] 5))
          have HN1 := hide (one_new wr x)
          have HB1 := hide (HD.out.str.ext (Ext.alloc wr (.cells #[.int .u8 x] 5)) (World.block_lt_of_cell? _ _ (HD.out.str 0 _ rfl).1))
          have HE1 := hide (HD.out.ext.trans (Ext.alloc wr (.cells #[.int .u8 x] 5)))
          have Hsz : Hid (w.heap.size + 1 ≤ (wr.alloc (.cells #[.int .u8 x] 5)).heap.size) := hide (by rw [World.size_alloc]; have : w.heap.size < wr.heap.size := World.block_lt_of_cell? _ _ (HD.out.str 0 _ rfl).1; omega)
          clear HD
          go_wp2_with (at_builtin; refine wpList_append_bs rfl _ _ rfl (w.heap.size + 1) _ (kk + 6) (byts T (kk + 6)) rfl HO1.out _ wr.heap.size 0 1 1 (fun _ => x) rfl HN1.out (by omega) Hsz.out ?_)
          intro v2 w2 hO2 h2
          have hA : AtD w w2 h r n cap many T (kk + 6 + 1) v2 := by
            refine ⟨Below.trans HE1.out (h2.mono (by omega)), HB1.out.below h2 (by omega), ?_⟩
            have e1 : byts T (kk + 6) ++ byts (fun _ => x) 1 = byts T (kk + 6 + 1) := tail_one x T (kk + 6) HV.out
            rw [e1] at hO2
            exact hO2
          have HA := hide hA
          clear hA hO2 h2 HO1 HN1 HB1 HE1 Hsz
          go_wp2
          go_roundw
          case rel => exact ⟨6 + 1, by omega, by go_num, HA.out⟩
          case measure => simp [intOf]
        · have e9 : x = 8 * (many : Int) % 256 := H9.out
          have r1 : IntKind.u8.wrap (8 * (many : Int)) = x := by (rw [e9, IntKind.wrap_u8]) ; try omega
          have r2 : 8 * (many : Int) % 256 = x := by (rw [e9]) ; try omega
          clear e9 H9
          have HO1 := hide (HD.out.tail.alloc (.cells #[.int .u8 x] 5))
          have HN1 := hide (one_new wr x)
          have HB1 := hide (HD.out.str.ext (Ext.alloc wr (.cells #[.int .u8 x] 5)) (World.block_lt_of_cell? _ _ (HD.out.str 0 _ rfl).1))
          have HE1 := hide (HD.out.ext.trans (Ext.alloc wr (.cells #[.int .u8 x] 5)))
          have Hsz : Hid (w.heap.size + 1 ≤ (wr.alloc (.cells #[.int .u8 x] 5)).heap.size) := hide (by rw [World.size_alloc]; have : w.heap.size < wr.heap.size := World.block_lt_of_cell? _ _ (HD.out.str 0 _ rfl).1; omega)
          clear HD
          go_wp2_with (at_builtin; refine wpList_append_bs rfl _ _ rfl (w.heap.size + 1) _ (kk + 7) (byts T (kk + 7)) rfl HO1.out _ wr.heap.size 0 1 1 (fun _ => x) rfl HN1.out (by omega) Hsz.out ?_)
          intro v2 w2 hO2 h2
          have hA : AtD w w2 h r n cap many T (kk + 7 + 1) v2 := by
            refine ⟨Below.trans HE1.out (h2.mono (by omega)), HB1.out.below h2 (by omega), ?_⟩
            have e1 : byts T (kk + 7) ++ byts (fun _ => x) 1 = byts T (kk + 7 + 1) := tail_one x T (kk + 7) HV.out
            rw [e1] at hO2
            exact hO2
          have HA := hide hA
          clear hA hO2 h2 HO1 HN1 HB1 HE1 Hsz
          go_wp2
          go_roundw
          case rel => exact ⟨7 + 1, by omega, by go_num, HA.out⟩
          case measure => simp [intOf]
      · have e8 : t = 8 := by omega
        subst e8
        have lt7 : ¬ (0 : Int) ≤ 7 - ((8 : Nat) : Int) := by omega
        have B := HD.out.str
        have c0 := (B 0 _ rfl).1
        have c1 := (B 1 _ rfl).1
        have c2 := (B 2 _ rfl).1
        have c3 := (B 3 _ rfl).1
        have c4 := (B 4 _ rfl).1
        have c5 := (B 5 _ rfl).1
        have c6 := (B 6 _ rfl).1
        have c7 := (B 7 _ rfl).1
        obtain ⟨N, hN⟩ : ∃ N, kk + 8 = N := ⟨_, rfl⟩
        have hN64 : Hid (N % 64 = 0 ∧ N ≤ 136 ∧ N = n + 9 + k) := hide (by have := Hz64.out; have := Hkk.out; omega)
        obtain ⟨ta, tg, tc, hta, htg, htc, htb, htB⟩ := owns_seg HD.out.tail
        rw [hN] at HD hta htc htB
        subst hta
        have HtB := hide htB.toBSeg
        have HE0 := hide HD.out.ext
        have HdS := hide HD.out
        clear B hN htB HPw HPz HP0 HT0 Hzf Hz64 Hkk kkb
        go_wp2
        apply HK.out
        clear HK
        go_wp2
        rename_i K hK
        have HK := hide hK
        clear hK
        obtain ⟨V3, hV3⟩ : ∃ V3, wr.alloc (.cells #[.int .i64 (h 0), .int .i64 (h 1), .int .i64 (h 2), .int .i64 (h 3), .int .i64 (h 4), .int .i64 (h 5), .int .i64 (h 6), .int .i64 (h 7)] 60) = V3 := ⟨_, rfl⟩
        obtain ⟨B3, E3, hz3⟩ := box1 wr [.int .i64 (h 0), .int .i64 (h 1), .int .i64 (h 2), .int .i64 (h 3), .int .i64 (h 4), .int .i64 (h 5), .int .i64 (h 6), .int .i64 (h 7)] 60 (hV3 ▸ Ext.refl _ : Ext _ V3)
        simp only [hV3]
        clear hV3
        have htl : tg < wr.heap.size := HtB.out.lt (by have := hN64.out; omega)
        have hta := HtB.out.at' (by have := hN64.out; omega)
        subst hta
        have HA3 : Hid (Ext w V3 ∧ BSeg V3 (some ⟨tg, 0, none⟩) tg 0 N T ∧ Arr V3 wr.heap.size 8 .i64 (blocksV h T 0)) := hide ⟨HE0.out.trans E3, HtB.out.of_all E3, Arr.of_blk8 B3⟩
        have hSH : w.heap.size < wr.heap.size := World.block_lt_of_cell? _ _ (HdS.out.str 0 _ rfl).1
        clear B3 E3 hz3 HtB HE0 HdS HD c0 c1 c2 c3 c4 c5 c6 c7
        generalize wr.heap.size = SH at *
        go_loopw [7] (fun i wr => ∃ q : Nat, 64 * q ≤ N ∧ i = .int .i64 (64 * (q : Int)) ∧ Ext w wr ∧ BSeg wr (some ⟨tg, 0, none⟩) tg 0 N T ∧ Arr wr SH 8 .i64 (blocksV h T q)) (fun i _ => N - (intOf i).toNat)
        case atStart => exact ⟨0, by omega, rfl, HA3.out⟩
        case round =>
        clear HA3
        obtain ⟨q, hq, rfl, hE, hB, hA⟩ := hrel
        by_cases hlt : 64 * q < N
        · have hq1 : 64 * q + 64 ≤ N := by have := hN64.out; omega
          obtain ⟨p, hp⟩ : ∃ p, 64 * q = p := ⟨_, rfl⟩
          have ip : 64 * (q : Int) = (p : Int) := by omega
          have l1 : (p : Int) < N := by omega
          have l2 : (p : Int) + 64 ≤ tc := by omega
          have l3 : (p : Int) ≤ tc := by omega
          have l4 : ¬ tc = p := by omega
          have l5 : (0 : Int) ≤ p := by omega
          obtain ⟨p2, hp2⟩ : ∃ p2, p2 = p + 64 := ⟨_, rfl⟩
          have l6 : IntKind.i64.wrap ((p : Int) + 64) = (p2 : Int) := by rw [IntKind.wrap_i64]; omega
          have l7 : p ≤ p2 := by omega
          have l8 : p2 - p = 64 := by omega
          have l9 : (p2 : Int) ≤ tc := by omega
          have l10 : (p : Int) ≤ p2 := by omega
          clear hp2 l2
          rw [ip]
          obtain ⟨v, hv⟩ : ∃ v : Nat → Int, v = blocksV h T q := ⟨_, rfl⟩
          obtain ⟨v2, hv2⟩ : ∃ v2 : Nat → Int, v2 = blocksV h T (q + 1) := ⟨_, rfl⟩
          have HC : Hid (∀ w' cap', Ext wr w' → Calls Try.prog 112 #[.agg #[.int .i64 (v 0), .int .i64 (v 1), .int .i64 (v 2), .int .i64 (v 3), .int .i64 (v 4), .int .i64 (v 5), .int .i64 (v 6), .int .i64 (v 7)], .slice (some ⟨tg, p, none⟩) 64 cap'] w' fun e w'' => e = .returned (.agg #[.int .i64 (v2 0), .int .i64 (v2 1), .int .i64 (v2 2), .int .i64 (v2 3), .int .i64 (v2 4), .int .i64 (v2 5), .int .i64 (v2 6), .int .i64 (v2 7)]) ∧ Ext w' w'') := hide (fun w' cap' he => by
            have hs : BSeg w' (some ⟨tg, p, none⟩) tg p 64 (fun i => T (64 * q + i)) := ⟨fun _ => rfl, fun i hi => by
              have := (hB.of_all he).cell (p + i) (by omega)
              rw [Nat.zero_add] at this
              rw [this, hp]⟩
            have := HBk.out v (fun i => T (64 * q + i)) (some ⟨tg, p, none⟩) tg p cap' w' hs (fun i hi => HY.out _ (by have := hN64.out; omega))
            rw [hv2, hv]
            rw [hv] at this
            exact this)
          have HAr : Hid (Arr wr SH 8 .i64 v) := hide (by rw [hv]; exact hA)
          have Hv2 := hide hv2
          have HEw := hide hE
          have HBs := hide hB
          have Hp := hide hp
          have Hip := hide ip
          clear hv hv2 hE hB hA hp ip
          obtain ⟨X, hX⟩ : ∃ X : Nat → Prop, X = fun k => k = SH := ⟨_, rfl⟩
          have xS : X SH := by rw [hX]
          clear hX
          go_wp2
          refine anyK_begin X 8 rfl (by kernel_rfl) ?_
          refine anyK_take 1 5 3 rfl (by decide) (by kernel_rfl) (fun _ _ d _ _ h => by cases d <;> exact h) ?_
          repeat (refine headC_step (fun K hK => ?_); go_simp; first | (refine hK _ ?_; clear hK K) | (apply Exists.intro; refine ⟨fun _ => ?_, hK _ ?_⟩; (fail); clear hK K))
          refine headC_nil ?_
          refine anyK_one 0 (by kernel_rfl) ?_
          refine stepK_run rfl ?_
          intro w3 h3 K2 hK2
          have A3 := HAr.out.ext h3
          obtain ⟨c0, f0⟩ := A3 0 (by omega)
          obtain ⟨c1, f1⟩ := A3 1 (by omega)
          obtain ⟨c2, f2⟩ := A3 2 (by omega)
          obtain ⟨c3, f3⟩ := A3 3 (by omega)
          obtain ⟨c4, f4⟩ := A3 4 (by omega)
          obtain ⟨c5, f5⟩ := A3 5 (by omega)
          obtain ⟨c6, f6⟩ := A3 6 (by omega)
          obtain ⟨c7, f7⟩ := A3 7 (by omega)
          go_simp
          refine hK2 _ _ (.of_ext h3) ?_
          clear hK2 K2 c0 c1 c2 c3 c4 c5 c6 c7 f0 f1 f2 f3 f4 f5 f6 f7 A3
          refine anyK_one 6 (by kernel_rfl) ?_
          refine stepK_run rfl ?_
          intro w4 h4 K2 hK2
          replace h4 := h3.trans h4
          clear h3
          go_simp
          refine (HC.out _ _ h4).mono ?_
          rintro e w5 ⟨rfl, h5⟩
          replace h5 := h4.trans h5
          clear h4
          refine hK2 _ _ (.of_ext h5) ?_
          clear hK2 K2
          refine anyK_one 7 (by kernel_rfl) ?_
          refine stepK_run rfl ?_
          intro w6 h6 K2 hK2
          replace h6 := h5.trans h6
          clear h5
          have A6 := HAr.out.ext h6
          obtain ⟨c0, f0⟩ := A6 0 (by omega)
          obtain ⟨c1, f1⟩ := A6 1 (by omega)
          obtain ⟨c2, f2⟩ := A6 2 (by omega)
          obtain ⟨c3, f3⟩ := A6 3 (by omega)
          obtain ⟨c4, f4⟩ := A6 4 (by omega)
          obtain ⟨c5, f5⟩ := A6 5 (by omega)
          obtain ⟨c6, f6⟩ := A6 6 (by omega)
          obtain ⟨c7, f7⟩ := A6 7 (by omega)
          go_simp
          refine hK2 _ _ (show Grw X wr (putL SH 0 [.int .i64 (v2 0), .int .i64 (v2 1), .int .i64 (v2 2), .int .i64 (v2 3), .int .i64 (v2 4), .int .i64 (v2 5), .int .i64 (v2 6), .int .i64 (v2 7)] w6) from Grw.putL xS _ _ _ (.of_ext h6)) ?_
          clear hK2 K2 c0 c1 c2 c3 c4 c5 c6 c7 f0 f1 f2 f3 f4 f5 f6 f7
          refine anyK_done (by kernel_rfl) ?_ 0
          intro w7 h7
          replace h7 : Ext (putL SH 0 [.int .i64 (v2 0), .int .i64 (v2 1), .int .i64 (v2 2), .int .i64 (v2 3), .int .i64 (v2 4), .int .i64 (v2 5), .int .i64 (v2 6), .int .i64 (v2 7)] w6) w7 := h7
          have HX : Hid (Ext w w7 ∧ BSeg w7 (some ⟨tg, 0, none⟩) tg 0 N T ∧ Arr w7 SH 8 .i64 v2) := by
            refine hide ⟨((HEw.out.trans h6).putL (by omega) _).trans h7, BSeg.of_all ⟨fun _ => rfl, fun i hi => ?_⟩ h7, (Arr.of_blk8 (A6.blk8.put [.int .i64 (v2 0), .int .i64 (v2 1), .int .i64 (v2 2), .int .i64 (v2 3), .int .i64 (v2 4), .int .i64 (v2 5), .int .i64 (v2 6), .int .i64 (v2 7)] rfl)).ext h7⟩
            rw [cell_putL_other _ _ _ _ _ (fun e => by simp only at e; omega)]
            exact (HBs.out.of_all h6).cell i hi
          clear h6 h7 A6 HAr HC
          go_wp2
          go_roundw
          case rel => exact ⟨q + 1, by omega, by have := Hip.out; refine congrArg _ ?_; omega, HX.out.1, HX.out.2.1, by rw [← Hv2.out]; exact HX.out.2.2⟩
          case measure => simp [intOf]; omega
        · have hqN : q = N / 64 := by omega
          obtain ⟨u, hu⟩ : ∃ u : Nat → Int, u = blocksV h T q := ⟨_, rfl⟩
          have hub : ∀ i, i < 8 → 0 ≤ u i ∧ u i < 4294967296 := fun i hi => by rw [hu]; exact blocksV_bound h T H8.out q i hi
          have HAr : Hid (Arr wr SH 8 .i64 u) := hide (by rw [hu]; exact hA)
          have HU : Hid (u = blocksV h T (N / 64)) := hide (by rw [hu, hqN])
          have HEw := hide hE
          have hqe : ¬ (64 * (q : Int)) < N := by omega
          have hSHl := hA.lt (by omega)
          clear hu hE hB hA hqN HBk HY H8
          go_wp2
          apply HK.out
          clear HK
          have hO0 := World.ownsRow_made (base := wr.heap.size) (e := 5) (size := 1) wr #[] 0 (Nat.le_refl _) (by simp) rfl
          have HA4 : Hid (Ext w (wr.alloc (.cells #[] 5)) ∧ Arr (wr.alloc (.cells #[] 5)) SH 8 .i64 u ∧ (wr.alloc (.cells #[] 5)).ownsRow wr.heap.size 5 1 (.slice (some ⟨wr.heap.size, 0, none⟩) 0 0) (4 * 0) (byts (stB u) (4 * 0)) ∧ wr.heap.size ≤ (wr.alloc (.cells #[] 5)).heap.size) := hide ⟨HEw.out.trans (Ext.alloc _ _), HAr.out.ext (Ext.alloc _ _), hO0, by simp⟩
          clear hO0
          have HSw := hide (Below.size HEw.out)
          go_wp2
          rename_i K hK
          have HK := hide hK
          clear hK HAr HEw
          generalize wr.heap.size = SB at *
          go_loopw [8, 9] (fun d i wr => ∃ t : Nat, t ≤ 8 ∧ i = .int .i64 (t : Int) ∧ Ext w wr ∧ Arr wr SH 8 .i64 u ∧ wr.ownsRow SB 5 1 d (4 * t) (byts (stB u) (4 * t)) ∧ SB ≤ wr.heap.size) (fun _ i _ => 8 - (intOf i).toNat)
          case atStart => exact ⟨0, by omega, rfl, HA4.out⟩
          case round =>
          clear HA4
          obtain ⟨t, ht, rfl, hE, hA, hO, hSB⟩ := hrel
          by_cases hlt : t < 8
          · obtain ⟨x, hx⟩ : ∃ x, u t = x := ⟨_, rfl⟩
            have hxb := hub t hlt
            rw [hx] at hxb
            obtain ⟨x0, x1⟩ := hxb
            have Hst := hide (stB_stepM u t)
            rw [hx] at Hst
            have ca := (hA t hlt).1
            rw [hx] at ca
            have r0 : IntKind.u8.wrap (x / 16777216) = wb x 0 := by rw [IntKind.wrap_u8]; show _ = x / 16777216; omega
            have r1 : IntKind.u8.wrap (x / 65536) = wb x 1 := by rw [IntKind.wrap_u8]; rfl
            have r2 : IntKind.u8.wrap (x / 256) = wb x 2 := by rw [IntKind.wrap_u8]; rfl
            have r3 : IntKind.u8.wrap x = wb x 3 := by rw [IntKind.wrap_u8]; rfl
            have Hwb : Hid (∀ w : World, BSeg (w.alloc (.cells #[.int .u8 (wb x 0), .int .u8 (wb x 1), .int .u8 (wb x 2), .int .u8 (wb x 3)] 5)) (some ⟨w.heap.size, 0, none⟩) w.heap.size 0 4 (wb x)) := hide (fun w => ⟨fun _ => rfl, fun i hi => by
              rw [Nat.zero_add]
              have e : i = 0 ∨ i = 1 ∨ i = 2 ∨ i = 3 := by omega
              rcases e with rfl | rfl | rfl | rfl <;> exact (Blk.alloc w [.int .u8 (wb x 0), .int .u8 (wb x 1), .int .u8 (wb x 2), .int .u8 (wb x 3)] 5 _ _ rfl).1⟩)
            generalize wb x 0 = y0 at *
            generalize wb x 1 = y1 at *
            generalize wb x 2 = y2 at *
            generalize wb x 3 = y3 at *
            have HE := hide hE
            have HAr := hide hA
            have HO := hide hO
            have HSB := hide hSB
            have t8 : (t : Int) < 8 := by omega
            clear hx hE hA hO hSB hub
            obtain ⟨X, hX⟩ : ∃ X : Nat → Prop, X = fun k => SB ≤ k := ⟨_, rfl⟩
            have xS : ¬ X SH := by rw [hX]; simp; omega
            have HX2 : Hid (∀ {a b : World}, Below SB a b → Grw X a b) := hide (by rw [hX]; exact fun h => grw_below h)
            clear hX
            have kc := cell_reC (X := X) ca xS
            clear ca
            go_wp2
            refine anyK_begin X 23 rfl (by kernel_rfl) ?_
            refine anyK_take 0 20 3 rfl (by decide) (by kernel_rfl) (fun _ _ d _ _ h => by cases d <;> exact h) ?_
            repeat (refine headC_step (fun K hK => ?_); go_simp; first | (refine hK _ ?_; clear hK K) | (apply Exists.intro; refine ⟨fun _ => ?_, hK _ ?_⟩; (fail); clear hK K))
            refine headC_nil ?_
            clear kc r0 r1 r2 r3
            refine anyK_one 20 (by kernel_rfl) ?_
            refine stepK_run rfl ?_
            intro w3 h3 K2 hK2
            go_simp
            refine hK2 _ _ (.of_ext (h3.trans (Ext.alloc _ _))) ?_
            clear hK2 K2
            have HB4 := hide (Hwb.out w3)
            have HO4 := hide ((owns_ext' HO.out h3).alloc (.cells #[.int .u8 y0, .int .u8 y1, .int .u8 y2, .int .u8 y3] 5))
            have E4 := h3.trans (Ext.alloc w3 (.cells #[.int .u8 y0, .int .u8 y1, .int .u8 y2, .int .u8 y3] 5))
            generalize w3.alloc (.cells #[.int .u8 y0, .int .u8 y1, .int .u8 y2, .int .u8 y3] 5) = w4 at *
            generalize w3.heap.size = SL at *
            clear h3 HO Hwb
            refine anyK_one 21 (by kernel_rfl) ?_
            refine stepK_run rfl ?_
            intro w5 h5 K2 hK2
            have HB5 := HB4.out.of_all h5
            have HO5 := owns_ext' HO4.out h5
            have E5 := E4.trans h5
            have hSB5 : SB ≤ w5.heap.size := Nat.le_trans HSB.out (Below.size E5)
            rw [if_pos (show _ = true by kernel_rfl)]
            refine wp_append_bs _ _ rfl SB _ (4 * t) (byts (stB u) (4 * t)) rfl HO5 _ SL 0 4 4 (wb x) rfl HB5 (by omega) hSB5 ?_
            intro v6 w6 hO6 h6
            refine hK2 _ _ ((Grw.of_ext E5).trans (HX2.out h6)) ?_
            clear hK2 K2
            rw [byts_append] at hO6
            have HO6 := hide (owns_congr hO6 Hst.out)
            have HA6 : Hid (Arr w6 SH 8 .i64 u) := hide (fun i hi => by
              obtain ⟨c1, c2⟩ := (HAr.out.ext E5) i hi
              exact ⟨(h6.cell (p := ⟨SH, i, none⟩) hSHl).trans c1, (h6.frozen (p := ⟨SH, i, none⟩) hSHl).trans c2⟩)
            have HE6 : Hid (Ext w w6) := hide (Below.trans (HE.out.trans E5) (h6.mono HSw.out))
            have HS6 : Hid (SB ≤ w6.heap.size) := hide (Nat.le_trans hSB5 h6.size)
            clear hO6 h6 HB5 HO5 E5 hSB5 h5 HB4 HO4 E4 HAr HE HSB
            refine anyK_take 22 1 0 rfl (by decide) (by kernel_rfl) (fun _ _ d _ _ h => by cases d <;> exact h) ?_
            repeat (refine headC_step (fun K hK => ?_); go_simp; first | (refine hK _ ?_; clear hK K) | (apply Exists.intro; refine ⟨fun _ => ?_, hK _ ?_⟩; (fail); clear hK K))
            refine headC_nil ?_
            refine anyK_done (by kernel_rfl) ?_ 0
            intro w7 h7
            have HF7 : Hid (Ext w w7 ∧ Arr w7 SH 8 .i64 u ∧ w7.ownsRow SB 5 1 v6 (4 * (t + 1)) (byts (stB u) (4 * (t + 1))) ∧ SB ≤ w7.heap.size) := hide ⟨HE6.out.trans h7, HA6.out.ext h7, owns_ext' HO6.out h7, Nat.le_trans HS6.out (Below.size h7)⟩
            clear HE6 HA6 HO6 HS6 h7
            go_wp2
            go_roundw
            case rel => exact ⟨t + 1, by omega, by go_num, HF7.out⟩
            case measure => simp [intOf]; omega
          · have e8 : t = 8 := by omega
            subst e8
            have h32 := hO
            rw [show 4 * 8 = 32 from rfl] at h32
            have HO := hide (owns_mono h32 HSw.out)
            have HE := hide hE
            clear h32 hO hE hA
            go_wp2
            apply HK.out
            clear HK
            go_wp2
            go_ret
            have hu := HU.out
            have h64 := hN64.out
            subst hu
            rw [h64.2.2] at HO
            exact ⟨_, rfl, HO.out, HE.out⟩

end Go.Proofs.Ytjkojofpkeglpab
