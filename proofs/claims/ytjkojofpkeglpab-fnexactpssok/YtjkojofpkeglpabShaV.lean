/- Walks: the program's Digest, of a right stream. -/
import Derived.Test.YtjkojofpkeglpabShaU
namespace Go.Proofs.Ytjkojofpkeglpab
set_option linter.unusedVariables false
set_option linter.unusedSimpArgs false
open Go.RowKit

/-- In mid-Digest: the stream's block and its rest. -/
structure DigAt (w wr : World) (h : Nat → Int) (r : Option Addr) (b off n cap : Nat) (f : Nat → Int) (many : Int) : Prop where
  ext : Ext w wr
  str : Blk wr w.heap.size [.int .i64 (h 0), .int .i64 (h 1), .int .i64 (h 2), .int .i64 (h 3), .int .i64 (h 4), .int .i64 (h 5), .int .i64 (h 6), .int .i64 (h 7), .slice r n cap, .int .i64 many]
  rest : BSeg wr r b off n f
theorem DigAt.up {w wr w' : World} {h : Nat → Int} {r : Option Addr} {b off n cap : Nat} {f : Nat → Int} {many : Int} (k : DigAt w wr h r b off n cap f many) (e : Ext wr w') : DigAt w w' h r b off n cap f many :=
  ⟨k.ext.trans e, k.str.ext e (World.block_lt_of_cell? _ _ (k.str 0 _ rfl).1), k.rest.of_all e⟩

/-- The state that a stream's digest tells. -/
def endV (h f : Nat → Int) (n many : Nat) (i : Nat) : Int := blocksV h (catF f n (padV many)) ((n + (9 + padZ many)) / 64) i % 4294967296
theorem endV_bound (h f : Nat → Int) (n many i : Nat) : 0 ≤ endV h f n many i ∧ endV h f n many i < 4294967296 := by unfold endV; omega

theorem stB_step (u : Nat → Int) (t : Nat) : ∀ i, i < 4 * t + 4 → catF (stB u) (4 * t) (wb (u t)) i = stB u i := by
  intro i hi
  unfold catF
  split
  · rfl
  · unfold stB
    rw [show i / 4 = t by omega, show i % 4 = i - 4 * t by omega]

set_option maxHeartbeats 6400000 in
set_option maxRecDepth 100000 in
theorem digest_yes (h : Nat → Int) (r : Option Addr) (b off n cap : Nat) (f : Nat → Int) (many : Nat) (w : World) (hok : StrOk h n many) (hs : BSeg w r b off n f) (hby : ∀ i, i < n → 0 ≤ f i ∧ f i < 256) :
    Calls Try.prog 49 #[.agg #[.int .i64 (h 0), .int .i64 (h 1), .int .i64 (h 2), .int .i64 (h 3), .int .i64 (h 4), .int .i64 (h 5), .int .i64 (h 6), .int .i64 (h 7), .slice r n cap, .int .i64 (many : Int)]] w fun e w' => GivesR w 32 (stB (endV h f n many)) e w' := by
  have hb := hok.2
  have n64 : n < 64 := by omega
  have hpz := padZ_lt many
  have hmx : many ≤ 20000 := by omega
  have HO := hide (implStreamOk_at h r n cap many true ⟨fun _ => hok, fun _ => rfl⟩)
  have HSt := hide (stateOf_any h)
  go_enter Try.func49, Try.ntmps49
  go_wp2_with fail
  obtain ⟨V, hV⟩ : ∃ V, w.alloc (.cells #[.int .i64 (h 0), .int .i64 (h 1), .int .i64 (h 2), .int .i64 (h 3), .int .i64 (h 4), .int .i64 (h 5), .int .i64 (h 6), .int .i64 (h 7), .slice r n cap, .int .i64 (many : Int)] 62) = V := ⟨_, rfl⟩
  obtain ⟨B1, hE, hz⟩ := box1 w [.int .i64 (h 0), .int .i64 (h 1), .int .i64 (h 2), .int .i64 (h 3), .int .i64 (h 4), .int .i64 (h 5), .int .i64 (h 6), .int .i64 (h 7), .slice r n cap, .int .i64 (many : Int)] 62 (hV ▸ Ext.refl _ : Ext _ V)
  simp only [hV]
  clear hV
  refine (HO.out _).mono ?_
  rintro e w1 ⟨rfl, h1⟩
  have HF : Hid (DigAt w w1 h r b off n cap f many) := hide ⟨hE.trans h1, B1.ext h1 (by omega), (hs.of_all hE).of_all h1⟩
  clear HO B1 hE h1 hs hz hb hok
  have c0 := (HF.out.str 0 _ rfl).1
  have c1 := (HF.out.str 1 _ rfl).1
  have c2 := (HF.out.str 2 _ rfl).1
  have c3 := (HF.out.str 3 _ rfl).1
  have c4 := (HF.out.str 4 _ rfl).1
  have c5 := (HF.out.str 5 _ rfl).1
  have c6 := (HF.out.str 6 _ rfl).1
  have c7 := (HF.out.str 7 _ rfl).1
  have c8 := (HF.out.str 8 _ rfl).1
  have c9 := (HF.out.str 9 _ rfl).1
  go_wp2
  rename_i K hK
  obtain ⟨X, hX⟩ : ∃ X : Nat → Prop, X = fun k => w1.heap.size ≤ k := ⟨_, rfl⟩
  have x0 : ∀ k, k < w1.heap.size → ¬ X k := fun k h => by rw [hX]; simp; omega
  have x1 : ∀ k, w1.heap.size ≤ k → X k := fun k h => by rw [hX]; exact h
  clear hX
  have HY : Hid (∀ i, i < n + (9 + padZ many) → 0 ≤ catF f n (padV many) i ∧ catF f n (padV many) i < 256) := hide (fun i hi => by
    unfold catF
    split
    · exact hby i (by assumption)
    · exact padV_bound many hmx _)
  have HW0 : Hid (Ext w w1) := hide HF.out.ext
  have LEAF : ∀ (x0 x2 x4 x5 x6 x7 x8 x9 x10 x11 x12 x13 x14 x15 x16 x17 x18 x19 x20 x21 x22 x23 x24 x25 x26 x27 x28 x29 x30 x31 x32 x33 x34 x35 : Value) (T : Nat) (w' : World), Ext w w' → Blk w' T [.int .u32 (blocksV h (catF f n (padV many)) ((n + (9 + padZ many)) / 64) 0 % 4294967296), .int .u32 (blocksV h (catF f n (padV many)) ((n + (9 + padZ many)) / 64) 1 % 4294967296), .int .u32 (blocksV h (catF f n (padV many)) ((n + (9 + padZ many)) / 64) 2 % 4294967296), .int .u32 (blocksV h (catF f n (padV many)) ((n + (9 + padZ many)) / 64) 3 % 4294967296), .int .u32 (blocksV h (catF f n (padV many)) ((n + (9 + padZ many)) / 64) 4 % 4294967296), .int .u32 (blocksV h (catF f n (padV many)) ((n + (9 + padZ many)) / 64) 5 % 4294967296), .int .u32 (blocksV h (catF f n (padV many)) ((n + (9 + padZ many)) / 64) 6 % 4294967296), .int .u32 (blocksV h (catF f n (padV many)) ((n + (9 + padZ many)) / 64) 7 % 4294967296)] → K { tmps := #[x0, .pointer (some ⟨w.heap.size, 0, none⟩), x2, .pointer (some ⟨T, 0, none⟩), x4, x5, x6, x7, x8, x9, x10, x11, x12, x13, x14, x15, x16, x17, x18, x19, x20, x21, x22, x23, x24, x25, x26, x27, x28, x29, x30, x31, x32, x33, x34, x35], defers := [] } w' := by
    intro x0 x2 x4 x5 x6 x7 x8 x9 x10 x11 x12 x13 x14 x15 x16 x17 x18 x19 x20 x21 x22 x23 x24 x25 x26 x27 x28 x29 x30 x31 x32 x33 x34 x35 T w' hEx hT
    apply hK
    clear hK
    replace hT : Blk w' T [.int .u32 (endV h f n many 0), .int .u32 (endV h f n many 1), .int .u32 (endV h f n many 2), .int .u32 (endV h f n many 3), .int .u32 (endV h f n many 4), .int .u32 (endV h f n many 5), .int .u32 (endV h f n many 6), .int .u32 (endV h f n many 7)] := hT
    have hub := endV_bound h f n many
    obtain ⟨u, hu⟩ : ∃ u : Nat → Int, u = endV h f n many := ⟨_, rfl⟩
    rw [← hu] at hT hub
    have HU := hide hu
    clear hu
    obtain ⟨o, ho⟩ : ∃ o : Obj, o = .cells (List.replicate 32 (.int .u8 0)).toArray 5 := ⟨_, rfl⟩
    have hmk : ∀ w : World, (Instr.makeSlice 22 (.int .i64 0) (.int .i64 32)).run Try.prog w = .ok (.slice (some ⟨w.heap.size, 0, none⟩) 0 32) (w.alloc o) := fun w => by rw [ho]; kernel_rfl
    have hO := World.ownsRow_made (base := w.heap.size) (e := 5) (size := 1) w' (List.replicate 32 (.int .u8 0)).toArray 32 (Below.size hEx) (by unfold maxLen; omega) (by simp)
    rw [← ho] at hO
    clear ho
    have hTl : T < w'.heap.size := World.block_lt_of_cell? _ _ (hT 0 _ rfl).1
    have hT1 := hT.ext (Ext.alloc w' o) hTl
    have hTn : ¬ T = w'.heap.size := by omega
    have hE1 := hEx.trans (Ext.alloc w' o)
    have HO := hide hO
    have HEx := hide hE1
    have k0 := (hT 0 _ rfl).1
    have k1 := (hT 1 _ rfl).1
    have k2 := (hT 2 _ rfl).1
    have k3 := (hT 3 _ rfl).1
    have k4 := (hT 4 _ rfl).1
    have k5 := (hT 5 _ rfl).1
    have k6 := (hT 6 _ rfl).1
    have k7 := (hT 7 _ rfl).1
    have j0 := (hT1 0 _ rfl).1
    have j1 := (hT1 1 _ rfl).1
    have j2 := (hT1 2 _ rfl).1
    have j3 := (hT1 3 _ rfl).1
    have j4 := (hT1 4 _ rfl).1
    have j5 := (hT1 5 _ rfl).1
    have j6 := (hT1 6 _ rfl).1
    have j7 := (hT1 7 _ rfl).1
    clear hO hE1 hEx hT hT1
    go_wp2
    rename_i K hK
    have HK := hide hK
    clear hK k0 k1 k2 k3 k4 k5 k6 k7 j0 j1 j2 j3 j4 j5 j6 j7 hmk hTl hTn
    go_loopw [5, 28] (fun d i wr => ∃ t : Nat, t ≤ 8 ∧ i = .int .i64 t ∧ wr.ownsRow w.heap.size 5 1 d (4 * t) (byts (stB u) (4 * t)) ∧ Ext w wr) (fun _ i _ => 8 - (intOf i).toNat)
    case atStart => exact ⟨0, by omega, rfl, HO.out, HEx.out⟩
    case round =>
      clear HO HEx
      obtain ⟨t, ht, rfl, hO, hE⟩ := hrel
      have HO := hide hO
      have HE := hide hE
      clear hO hE
      by_cases hlt : t < 8
      · have hix := ixU u t hlt
        have hu := hub t
        have Hst := hide (stB_step u t)
        obtain ⟨x, hx⟩ : ∃ x, u t = x := ⟨_, rfl⟩
        rw [hx] at hix hu Hst
        obtain ⟨u0, u1⟩ := hu
        have t8 : (t : Int) < 8 := by omega
        clear hx hub
        go_wp2_with fail
        refine (appendWord_any w.heap.size _ (4 * t) (stB u) x wr HO.out (by omega) (Below.size HE.out) u0 u1).mono ?_
        rintro e w3 ⟨v3, rfl, hO3, hE3⟩
        have HO3 := hide (owns_congr hO3 Hst.out)
        have HE3 : Hid (Ext w w3) := hide (Below.trans HE.out hE3)
        clear hO3 hE3 HO HE
        go_wp2
        go_roundw
        case rel => exact ⟨t + 1, by omega, by go_num, HO3.out, HE3.out⟩
        case measure => simp [intOf]; omega
      · have e8 : t = 8 := by omega
        subst e8
        have h32 := HO.out
        rw [show 4 * 8 = 32 from rfl] at h32
        replace HO := hide h32
        clear h32
        go_wp2
        apply HK.out
        clear HK
        go_wp2
        go_ret
        have hu := HU.out
        subst hu
        exact ⟨_, rfl, HO.out, HE.out⟩
  have HLEAF := hide LEAF
  clear LEAF hK hby
  have k0 := cell_reC (X := X) c0 (x0 _ (World.block_lt_of_cell? _ _ c0))
  have k1 := cell_reC (X := X) c1 (x0 _ (World.block_lt_of_cell? _ _ c1))
  have k2 := cell_reC (X := X) c2 (x0 _ (World.block_lt_of_cell? _ _ c2))
  have k3 := cell_reC (X := X) c3 (x0 _ (World.block_lt_of_cell? _ _ c3))
  have k4 := cell_reC (X := X) c4 (x0 _ (World.block_lt_of_cell? _ _ c4))
  have k5 := cell_reC (X := X) c5 (x0 _ (World.block_lt_of_cell? _ _ c5))
  have k6 := cell_reC (X := X) c6 (x0 _ (World.block_lt_of_cell? _ _ c6))
  have k7 := cell_reC (X := X) c7 (x0 _ (World.block_lt_of_cell? _ _ c7))
  have k8 := cell_reC (X := X) c8 (x0 _ (World.block_lt_of_cell? _ _ c8))
  have k9 := cell_reC (X := X) c9 (x0 _ (World.block_lt_of_cell? _ _ c9))
  clear c0 c1 c2 c3 c4 c5 c6 c7 c8 c9
  have HE : Hid (Ext w1 w1) := hide (Ext.refl _)
  refine anyK_begin X 17 rfl (by kernel_rfl) ?_
  refine anyK_take 0 7 10 rfl (by decide) (by kernel_rfl) (fun _ _ d _ _ h => by cases d <;> exact h) ?_
  repeat (refine headC_step (fun K hK => ?_); go_simp; first | (refine hK _ ?_; clear hK K) | (apply Exists.intro; refine ⟨fun _ => ?_, hK _ ?_⟩; ((go_at_call 82; exact Calls.re_of (HSt.out _))); clear hK K))
  refine headC_nil ?_
  clear k0 k1 k2 k3 k4 k5 k6 k7 k8 k9
  refine anyK_two 7 14 (by kernel_rfl) ?_ ?_
  · skip
    refine stepK_run rfl ?_
    intro w2 h2 K2 hK2
    replace HF := hide (HF.out.up h2)
    replace HE := hide (HE.out.trans h2)
    clear h2
    go_simp
    refine (padding_any many (by omega) w2).mono ?_
    rintro e w3 ⟨pv, rfl, hpO, e2⟩
    refine hK2 _ _ (.of_ext (HE.out.trans e2)) ?_
    clear hK2 K2
    obtain ⟨pa, pg, pc, rfl, -, -, -, hpB⟩ := owns_seg hpO
    replace HF := hide (HF.out.up e2)
    replace HE := hide (HE.out.trans e2)
    have HP := hide hpB.toBSeg
    clear e2 hpO hpB
    refine anyK_two 8 14 (by kernel_rfl) ?_ ?_
    · skip
      refine stepK_run rfl ?_
      intro w4 h4 K2 hK2
      replace HF := hide (HF.out.up h4)
      replace HE := hide (HE.out.trans h4)
      replace HP := hide (HP.out.of_all h4)
      clear h4
      go_simp
      have e4 := Ext.alloc w4 (.cells #[.slice r n cap, .slice pa (9 + padZ many) pc] 22)
      refine hK2 _ _ (.of_ext (HE.out.trans e4)) ?_
      clear hK2 K2
      have HS := hide (Blk.alloc w4 [.slice r n cap, .slice pa (9 + padZ many) pc] 22)
      replace HF := hide (HF.out.up e4)
      replace HE := hide (HE.out.trans e4)
      replace HP := hide (HP.out.of_all e4)
      clear e4
      generalize w4.alloc (.cells #[.slice r n cap, .slice pa (9 + padZ many) pc] 22) = w5 at *
      generalize w4.heap.size = S at *
      refine anyK_two 9 14 (by kernel_rfl) ?_ ?_
      · skip
        refine stepK_run rfl ?_
        intro w6 h6 K2 hK2
        replace HF := hide (HF.out.up h6)
        replace HE := hide (HE.out.trans h6)
        replace HP := hide (HP.out.of_all h6)
        replace HS := hide (HS.out.ext h6 (World.block_lt_of_cell? _ _ (HS.out 0 _ rfl).1))
        clear h6
        go_simp
        refine (concat2_any S 2 r b off n cap f pa pg 0 (9 + padZ many) pc (padV many) w6 HS.out HF.out.rest HP.out (by omega)).mono ?_
        rintro e w7 ⟨ca, cg, cc, rfl, hcg, hcc, hcb, hcO, e6⟩
        refine hK2 _ _ (.of_ext (HE.out.trans e6)) ?_
        clear hK2 K2
        replace HF := hide (HF.out.up e6)
        replace HE := hide (HE.out.trans e6)
        replace HP := hide (HP.out.of_all e6)
        replace HS := hide (HS.out.ext e6 (World.block_lt_of_cell? _ _ (HS.out 0 _ rfl).1))
        have HC := hide hcO.toBSeg
        clear e6 hcO hcg
        refine anyK_two 10 14 (by kernel_rfl) ?_ ?_
        · skip
          refine stepK_run rfl ?_
          intro w8 h8 K2 hK2
          replace HF := hide (HF.out.up h8)
          replace HE := hide (HE.out.trans h8)
          replace HP := hide (HP.out.of_all h8)
          replace HS := hide (HS.out.ext h8 (World.block_lt_of_cell? _ _ (HS.out 0 _ rfl).1))
          replace HC := hide (HC.out.of_all h8)
          clear h8
          go_simp
          refine (behind_any h (catF f n (padV many)) ca cg 0 (n + (9 + padZ many)) cc w8 HC.out (by omega) hcc hcb HY.out).mono ?_
          rintro e w9 ⟨ra, roff, rc, rfl, hrB, hrc, e8⟩
          refine hK2 _ _ (.of_ext (HE.out.trans e8)) ?_
          clear hK2 K2 hrB
          replace HF := hide (HF.out.up e8)
          replace HE := hide (HE.out.trans e8)
          replace HP := hide (HP.out.of_all e8)
          replace HS := hide (HS.out.ext e8 (World.block_lt_of_cell? _ _ (HS.out 0 _ rfl).1))
          replace HC := hide (HC.out.of_all e8)
          clear e8
          refine anyK_take 11 3 3 rfl (by decide) (by kernel_rfl) (fun _ _ d _ _ h => by cases d <;> exact h) ?_
          repeat (refine headC_step (fun K hK => ?_); go_simp; first | (refine hK _ ?_; clear hK K) | (apply Exists.intro; refine ⟨fun _ => ?_, hK _ ?_⟩; (fail); clear hK K))
          refine headC_nil ?_
          refine anyK_one 14 (by kernel_rfl) ?_
          refine stepK_run rfl ?_
          intro w10 h10 K2 hK2
          replace HF := hide (HF.out.up h10)
          replace HE := hide (HE.out.trans h10)
          replace HP := hide (HP.out.of_all h10)
          replace HS := hide (HS.out.ext h10 (World.block_lt_of_cell? _ _ (HS.out 0 _ rfl).1))
          replace HC := hide (HC.out.of_all h10)
          clear h10
          rw [if_pos (show _ = true by kernel_rfl)]
          have e10 := Ext.alloc w10 (.cells (List.replicate 8 (.int .u32 0)).toArray 113)
          refine wp_value (v := .pointer (some ⟨w10.heap.size, 0, none⟩)) (w' := w10.alloc (.cells (List.replicate 8 (.int .u32 0)).toArray 113)) (by kernel_rfl) ?_
          refine hK2 _ _ (.of_ext (HE.out.trans e10)) ?_
          clear hK2 K2
          have HT := hide (Blk.alloc w10 (List.replicate 8 (.int .u32 0)) 113)
          have hT : Hid (w1.heap.size ≤ w10.heap.size) := hide (Below.size HE.out)
          replace HF := hide (HF.out.up e10)
          replace HE := hide (HE.out.trans e10)
          replace HP := hide (HP.out.of_all e10)
          replace HS := hide (HS.out.ext e10 (World.block_lt_of_cell? _ _ (HS.out 0 _ rfl).1))
          replace HC := hide (HC.out.of_all e10)
          clear e10
          generalize w10.alloc (.cells (List.replicate 8 (.int .u32 0)).toArray 113) = w11 at *
          generalize w10.heap.size = T at *
          refine anyK_one 15 (by kernel_rfl) ?_
          refine stepK_run rfl ?_
          intro w12 h12 K2 hK2
          replace HF := hide (HF.out.up h12)
          replace HE := hide (HE.out.trans h12)
          replace HP := hide (HP.out.of_all h12)
          replace HS := hide (HS.out.ext h12 (World.block_lt_of_cell? _ _ (HS.out 0 _ rfl).1))
          replace HC := hide (HC.out.of_all h12)
          replace HT := hide (HT.out.ext h12 (World.block_lt_of_cell? _ _ (HT.out 0 _ rfl).1))
          clear h12
          rw [if_pos (show _ = true by kernel_rfl)]
          refine wp_skip (w' := putL T 0 [.int .u32 (blocksV h (catF f n (padV many)) ((n + (9 + padZ many)) / 64) 0 % 4294967296), .int .u32 (blocksV h (catF f n (padV many)) ((n + (9 + padZ many)) / 64) 1 % 4294967296), .int .u32 (blocksV h (catF f n (padV many)) ((n + (9 + padZ many)) / 64) 2 % 4294967296), .int .u32 (blocksV h (catF f n (padV many)) ((n + (9 + padZ many)) / 64) 3 % 4294967296), .int .u32 (blocksV h (catF f n (padV many)) ((n + (9 + padZ many)) / 64) 4 % 4294967296), .int .u32 (blocksV h (catF f n (padV many)) ((n + (9 + padZ many)) / 64) 5 % 4294967296), .int .u32 (blocksV h (catF f n (padV many)) ((n + (9 + padZ many)) / 64) 6 % 4294967296), .int .u32 (blocksV h (catF f n (padV many)) ((n + (9 + padZ many)) / 64) 7 % 4294967296)] w12) ?_ ?_
          · show ((do Instr.storeAt 113 (.pointer (some ⟨T, 0, none⟩)) (.agg ([.int .u32 (blocksV h (catF f n (padV many)) ((n + (9 + padZ many)) / 64) 0 % 4294967296), .int .u32 (blocksV h (catF f n (padV many)) ((n + (9 + padZ many)) / 64) 1 % 4294967296), .int .u32 (blocksV h (catF f n (padV many)) ((n + (9 + padZ many)) / 64) 2 % 4294967296), .int .u32 (blocksV h (catF f n (padV many)) ((n + (9 + padZ many)) / 64) 3 % 4294967296), .int .u32 (blocksV h (catF f n (padV many)) ((n + (9 + padZ many)) / 64) 4 % 4294967296), .int .u32 (blocksV h (catF f n (padV many)) ((n + (9 + padZ many)) / 64) 5 % 4294967296), .int .u32 (blocksV h (catF f n (padV many)) ((n + (9 + padZ many)) / 64) 6 % 4294967296), .int .u32 (blocksV h (catF f n (padV many)) ((n + (9 + padZ many)) / 64) 7 % 4294967296)] : List Value).toArray); pure .skip : Sem Next)).run Try.prog w12 = _
            rw [Sem.run_bind, run_store8 [.int .u32 (blocksV h (catF f n (padV many)) ((n + (9 + padZ many)) / 64) 0 % 4294967296), .int .u32 (blocksV h (catF f n (padV many)) ((n + (9 + padZ many)) / 64) 1 % 4294967296), .int .u32 (blocksV h (catF f n (padV many)) ((n + (9 + padZ many)) / 64) 2 % 4294967296), .int .u32 (blocksV h (catF f n (padV many)) ((n + (9 + padZ many)) / 64) 3 % 4294967296), .int .u32 (blocksV h (catF f n (padV many)) ((n + (9 + padZ many)) / 64) 4 % 4294967296), .int .u32 (blocksV h (catF f n (padV many)) ((n + (9 + padZ many)) / 64) 5 % 4294967296), .int .u32 (blocksV h (catF f n (padV many)) ((n + (9 + padZ many)) / 64) 6 % 4294967296), .int .u32 (blocksV h (catF f n (padV many)) ((n + (9 + padZ many)) / 64) 7 % 4294967296)] rfl (fun v hv => by simp at hv; rcases hv with rfl | rfl | rfl | rfl | rfl | rfl | rfl | rfl <;> rfl) _ w12 (fun j hj => by rw [(HT.out j _ (zero_at hj _)).1]; rfl) (fun j hj => (HT.out j _ (zero_at hj _)).2)]
            rfl
          refine hK2 _ _ (Grw.putL (x1 _ hT.out) _ _ _ (.of_ext HE.out)) ?_
          clear hK2 K2
          refine anyK_take 16 1 0 rfl (by decide) (by kernel_rfl) (fun _ _ d _ _ h => by cases d <;> exact h) ?_
          repeat (refine headC_step (fun K hK => ?_); go_simp; first | (refine hK _ ?_; clear hK K) | (apply Exists.intro; refine ⟨fun _ => ?_, hK _ ?_⟩; (fail); clear hK K))
          refine headC_nil ?_
          refine anyK_done (by kernel_rfl) ?_ 0
          intro w13 h13
          have e9 : Ext w1 w13 := (HE.out.putL hT.out _).trans h13
          exact HLEAF.out _ _ _ _ _ _ _ _ _ _ _ _ _ _ _ _ _ _ _ _ _ _ _ _ _ _ _ _ _ _ _ _ _ _ T w13 (HW0.out.trans e9) ((HT.out.put [.int .u32 (blocksV h (catF f n (padV many)) ((n + (9 + padZ many)) / 64) 0 % 4294967296), .int .u32 (blocksV h (catF f n (padV many)) ((n + (9 + padZ many)) / 64) 1 % 4294967296), .int .u32 (blocksV h (catF f n (padV many)) ((n + (9 + padZ many)) / 64) 2 % 4294967296), .int .u32 (blocksV h (catF f n (padV many)) ((n + (9 + padZ many)) / 64) 3 % 4294967296), .int .u32 (blocksV h (catF f n (padV many)) ((n + (9 + padZ many)) / 64) 4 % 4294967296), .int .u32 (blocksV h (catF f n (padV many)) ((n + (9 + padZ many)) / 64) 5 % 4294967296), .int .u32 (blocksV h (catF f n (padV many)) ((n + (9 + padZ many)) / 64) 6 % 4294967296), .int .u32 (blocksV h (catF f n (padV many)) ((n + (9 + padZ many)) / 64) 7 % 4294967296)] rfl).ext h13 (by rw [size_putL]; exact World.block_lt_of_cell? _ _ (HT.out 0 _ (zero_at (by omega) _)).1))
        · skip
          refine stepK_run rfl ?_
          intro w8 h8 K2 hK2
          replace HF := hide (HF.out.up h8)
          replace HE := hide (HE.out.trans h8)
          replace HP := hide (HP.out.of_all h8)
          replace HS := hide (HS.out.ext h8 (World.block_lt_of_cell? _ _ (HS.out 0 _ rfl).1))
          replace HC := hide (HC.out.of_all h8)
          clear h8
          rw [if_pos (show _ = true by kernel_rfl)]
          have e8 := Ext.alloc w8 (.cells (List.replicate 8 (.int .u32 0)).toArray 113)
          refine wp_value (v := .pointer (some ⟨w8.heap.size, 0, none⟩)) (w' := w8.alloc (.cells (List.replicate 8 (.int .u32 0)).toArray 113)) (by kernel_rfl) ?_
          refine hK2 _ _ (.of_ext (HE.out.trans e8)) ?_
          clear hK2 K2
          have HT := hide (Blk.alloc w8 (List.replicate 8 (.int .u32 0)) 113)
          have hT : Hid (w1.heap.size ≤ w8.heap.size) := hide (Below.size HE.out)
          replace HF := hide (HF.out.up e8)
          replace HE := hide (HE.out.trans e8)
          replace HP := hide (HP.out.of_all e8)
          replace HS := hide (HS.out.ext e8 (World.block_lt_of_cell? _ _ (HS.out 0 _ rfl).1))
          replace HC := hide (HC.out.of_all e8)
          clear e8
          generalize w8.alloc (.cells (List.replicate 8 (.int .u32 0)).toArray 113) = w9 at *
          generalize w8.heap.size = T at *
          refine anyK_one 10 (by kernel_rfl) ?_
          refine stepK_run rfl ?_
          intro w10 h10 K2 hK2
          replace HF := hide (HF.out.up h10)
          replace HE := hide (HE.out.trans h10)
          replace HP := hide (HP.out.of_all h10)
          replace HS := hide (HS.out.ext h10 (World.block_lt_of_cell? _ _ (HS.out 0 _ rfl).1))
          replace HC := hide (HC.out.of_all h10)
          replace HT := hide (HT.out.ext h10 (World.block_lt_of_cell? _ _ (HT.out 0 _ rfl).1))
          clear h10
          go_simp
          refine (behind_any h (catF f n (padV many)) ca cg 0 (n + (9 + padZ many)) cc w10 HC.out (by omega) hcc hcb HY.out).mono ?_
          rintro e w11 ⟨ra, roff, rc, rfl, hrB, hrc, e10⟩
          refine hK2 _ _ (.of_ext (HE.out.trans e10)) ?_
          clear hK2 K2 hrB
          replace HF := hide (HF.out.up e10)
          replace HE := hide (HE.out.trans e10)
          replace HP := hide (HP.out.of_all e10)
          replace HS := hide (HS.out.ext e10 (World.block_lt_of_cell? _ _ (HS.out 0 _ rfl).1))
          replace HC := hide (HC.out.of_all e10)
          replace HT := hide (HT.out.ext e10 (World.block_lt_of_cell? _ _ (HT.out 0 _ rfl).1))
          clear e10
          refine anyK_take 11 3 2 rfl (by decide) (by kernel_rfl) (fun _ _ d _ _ h => by cases d <;> exact h) ?_
          repeat (refine headC_step (fun K hK => ?_); go_simp; first | (refine hK _ ?_; clear hK K) | (apply Exists.intro; refine ⟨fun _ => ?_, hK _ ?_⟩; (fail); clear hK K))
          refine headC_nil ?_
          refine anyK_one 15 (by kernel_rfl) ?_
          refine stepK_run rfl ?_
          intro w12 h12 K2 hK2
          replace HF := hide (HF.out.up h12)
          replace HE := hide (HE.out.trans h12)
          replace HP := hide (HP.out.of_all h12)
          replace HS := hide (HS.out.ext h12 (World.block_lt_of_cell? _ _ (HS.out 0 _ rfl).1))
          replace HC := hide (HC.out.of_all h12)
          replace HT := hide (HT.out.ext h12 (World.block_lt_of_cell? _ _ (HT.out 0 _ rfl).1))
          clear h12
          rw [if_pos (show _ = true by kernel_rfl)]
          refine wp_skip (w' := putL T 0 [.int .u32 (blocksV h (catF f n (padV many)) ((n + (9 + padZ many)) / 64) 0 % 4294967296), .int .u32 (blocksV h (catF f n (padV many)) ((n + (9 + padZ many)) / 64) 1 % 4294967296), .int .u32 (blocksV h (catF f n (padV many)) ((n + (9 + padZ many)) / 64) 2 % 4294967296), .int .u32 (blocksV h (catF f n (padV many)) ((n + (9 + padZ many)) / 64) 3 % 4294967296), .int .u32 (blocksV h (catF f n (padV many)) ((n + (9 + padZ many)) / 64) 4 % 4294967296), .int .u32 (blocksV h (catF f n (padV many)) ((n + (9 + padZ many)) / 64) 5 % 4294967296), .int .u32 (blocksV h (catF f n (padV many)) ((n + (9 + padZ many)) / 64) 6 % 4294967296), .int .u32 (blocksV h (catF f n (padV many)) ((n + (9 + padZ many)) / 64) 7 % 4294967296)] w12) ?_ ?_
          · show ((do Instr.storeAt 113 (.pointer (some ⟨T, 0, none⟩)) (.agg ([.int .u32 (blocksV h (catF f n (padV many)) ((n + (9 + padZ many)) / 64) 0 % 4294967296), .int .u32 (blocksV h (catF f n (padV many)) ((n + (9 + padZ many)) / 64) 1 % 4294967296), .int .u32 (blocksV h (catF f n (padV many)) ((n + (9 + padZ many)) / 64) 2 % 4294967296), .int .u32 (blocksV h (catF f n (padV many)) ((n + (9 + padZ many)) / 64) 3 % 4294967296), .int .u32 (blocksV h (catF f n (padV many)) ((n + (9 + padZ many)) / 64) 4 % 4294967296), .int .u32 (blocksV h (catF f n (padV many)) ((n + (9 + padZ many)) / 64) 5 % 4294967296), .int .u32 (blocksV h (catF f n (padV many)) ((n + (9 + padZ many)) / 64) 6 % 4294967296), .int .u32 (blocksV h (catF f n (padV many)) ((n + (9 + padZ many)) / 64) 7 % 4294967296)] : List Value).toArray); pure .skip : Sem Next)).run Try.prog w12 = _
            rw [Sem.run_bind, run_store8 [.int .u32 (blocksV h (catF f n (padV many)) ((n + (9 + padZ many)) / 64) 0 % 4294967296), .int .u32 (blocksV h (catF f n (padV many)) ((n + (9 + padZ many)) / 64) 1 % 4294967296), .int .u32 (blocksV h (catF f n (padV many)) ((n + (9 + padZ many)) / 64) 2 % 4294967296), .int .u32 (blocksV h (catF f n (padV many)) ((n + (9 + padZ many)) / 64) 3 % 4294967296), .int .u32 (blocksV h (catF f n (padV many)) ((n + (9 + padZ many)) / 64) 4 % 4294967296), .int .u32 (blocksV h (catF f n (padV many)) ((n + (9 + padZ many)) / 64) 5 % 4294967296), .int .u32 (blocksV h (catF f n (padV many)) ((n + (9 + padZ many)) / 64) 6 % 4294967296), .int .u32 (blocksV h (catF f n (padV many)) ((n + (9 + padZ many)) / 64) 7 % 4294967296)] rfl (fun v hv => by simp at hv; rcases hv with rfl | rfl | rfl | rfl | rfl | rfl | rfl | rfl <;> rfl) _ w12 (fun j hj => by rw [(HT.out j _ (zero_at hj _)).1]; rfl) (fun j hj => (HT.out j _ (zero_at hj _)).2)]
            rfl
          refine hK2 _ _ (Grw.putL (x1 _ hT.out) _ _ _ (.of_ext HE.out)) ?_
          clear hK2 K2
          refine anyK_take 16 1 0 rfl (by decide) (by kernel_rfl) (fun _ _ d _ _ h => by cases d <;> exact h) ?_
          repeat (refine headC_step (fun K hK => ?_); go_simp; first | (refine hK _ ?_; clear hK K) | (apply Exists.intro; refine ⟨fun _ => ?_, hK _ ?_⟩; (fail); clear hK K))
          refine headC_nil ?_
          refine anyK_done (by kernel_rfl) ?_ 0
          intro w13 h13
          have e9 : Ext w1 w13 := (HE.out.putL hT.out _).trans h13
          exact HLEAF.out _ _ _ _ _ _ _ _ _ _ _ _ _ _ _ _ _ _ _ _ _ _ _ _ _ _ _ _ _ _ _ _ _ _ T w13 (HW0.out.trans e9) ((HT.out.put [.int .u32 (blocksV h (catF f n (padV many)) ((n + (9 + padZ many)) / 64) 0 % 4294967296), .int .u32 (blocksV h (catF f n (padV many)) ((n + (9 + padZ many)) / 64) 1 % 4294967296), .int .u32 (blocksV h (catF f n (padV many)) ((n + (9 + padZ many)) / 64) 2 % 4294967296), .int .u32 (blocksV h (catF f n (padV many)) ((n + (9 + padZ many)) / 64) 3 % 4294967296), .int .u32 (blocksV h (catF f n (padV many)) ((n + (9 + padZ many)) / 64) 4 % 4294967296), .int .u32 (blocksV h (catF f n (padV many)) ((n + (9 + padZ many)) / 64) 5 % 4294967296), .int .u32 (blocksV h (catF f n (padV many)) ((n + (9 + padZ many)) / 64) 6 % 4294967296), .int .u32 (blocksV h (catF f n (padV many)) ((n + (9 + padZ many)) / 64) 7 % 4294967296)] rfl).ext h13 (by rw [size_putL]; exact World.block_lt_of_cell? _ _ (HT.out 0 _ (zero_at (by omega) _)).1))
      · skip
        refine stepK_run rfl ?_
        intro w6 h6 K2 hK2
        replace HF := hide (HF.out.up h6)
        replace HE := hide (HE.out.trans h6)
        replace HP := hide (HP.out.of_all h6)
        replace HS := hide (HS.out.ext h6 (World.block_lt_of_cell? _ _ (HS.out 0 _ rfl).1))
        clear h6
        rw [if_pos (show _ = true by kernel_rfl)]
        have e6 := Ext.alloc w6 (.cells (List.replicate 8 (.int .u32 0)).toArray 113)
        refine wp_value (v := .pointer (some ⟨w6.heap.size, 0, none⟩)) (w' := w6.alloc (.cells (List.replicate 8 (.int .u32 0)).toArray 113)) (by kernel_rfl) ?_
        refine hK2 _ _ (.of_ext (HE.out.trans e6)) ?_
        clear hK2 K2
        have HT := hide (Blk.alloc w6 (List.replicate 8 (.int .u32 0)) 113)
        have hT : Hid (w1.heap.size ≤ w6.heap.size) := hide (Below.size HE.out)
        replace HF := hide (HF.out.up e6)
        replace HE := hide (HE.out.trans e6)
        replace HP := hide (HP.out.of_all e6)
        replace HS := hide (HS.out.ext e6 (World.block_lt_of_cell? _ _ (HS.out 0 _ rfl).1))
        clear e6
        generalize w6.alloc (.cells (List.replicate 8 (.int .u32 0)).toArray 113) = w7 at *
        generalize w6.heap.size = T at *
        refine anyK_one 9 (by kernel_rfl) ?_
        refine stepK_run rfl ?_
        intro w8 h8 K2 hK2
        replace HF := hide (HF.out.up h8)
        replace HE := hide (HE.out.trans h8)
        replace HP := hide (HP.out.of_all h8)
        replace HS := hide (HS.out.ext h8 (World.block_lt_of_cell? _ _ (HS.out 0 _ rfl).1))
        replace HT := hide (HT.out.ext h8 (World.block_lt_of_cell? _ _ (HT.out 0 _ rfl).1))
        clear h8
        go_simp
        refine (concat2_any S 2 r b off n cap f pa pg 0 (9 + padZ many) pc (padV many) w8 HS.out HF.out.rest HP.out (by omega)).mono ?_
        rintro e w9 ⟨ca, cg, cc, rfl, hcg, hcc, hcb, hcO, e8⟩
        refine hK2 _ _ (.of_ext (HE.out.trans e8)) ?_
        clear hK2 K2
        replace HF := hide (HF.out.up e8)
        replace HE := hide (HE.out.trans e8)
        replace HP := hide (HP.out.of_all e8)
        replace HS := hide (HS.out.ext e8 (World.block_lt_of_cell? _ _ (HS.out 0 _ rfl).1))
        replace HT := hide (HT.out.ext e8 (World.block_lt_of_cell? _ _ (HT.out 0 _ rfl).1))
        have HC := hide hcO.toBSeg
        clear e8 hcO hcg
        refine anyK_one 10 (by kernel_rfl) ?_
        refine stepK_run rfl ?_
        intro w10 h10 K2 hK2
        replace HF := hide (HF.out.up h10)
        replace HE := hide (HE.out.trans h10)
        replace HP := hide (HP.out.of_all h10)
        replace HS := hide (HS.out.ext h10 (World.block_lt_of_cell? _ _ (HS.out 0 _ rfl).1))
        replace HT := hide (HT.out.ext h10 (World.block_lt_of_cell? _ _ (HT.out 0 _ rfl).1))
        replace HC := hide (HC.out.of_all h10)
        clear h10
        go_simp
        refine (behind_any h (catF f n (padV many)) ca cg 0 (n + (9 + padZ many)) cc w10 HC.out (by omega) hcc hcb HY.out).mono ?_
        rintro e w11 ⟨ra, roff, rc, rfl, hrB, hrc, e10⟩
        refine hK2 _ _ (.of_ext (HE.out.trans e10)) ?_
        clear hK2 K2 hrB
        replace HF := hide (HF.out.up e10)
        replace HE := hide (HE.out.trans e10)
        replace HP := hide (HP.out.of_all e10)
        replace HS := hide (HS.out.ext e10 (World.block_lt_of_cell? _ _ (HS.out 0 _ rfl).1))
        replace HT := hide (HT.out.ext e10 (World.block_lt_of_cell? _ _ (HT.out 0 _ rfl).1))
        replace HC := hide (HC.out.of_all e10)
        clear e10
        refine anyK_take 11 3 2 rfl (by decide) (by kernel_rfl) (fun _ _ d _ _ h => by cases d <;> exact h) ?_
        repeat (refine headC_step (fun K hK => ?_); go_simp; first | (refine hK _ ?_; clear hK K) | (apply Exists.intro; refine ⟨fun _ => ?_, hK _ ?_⟩; (fail); clear hK K))
        refine headC_nil ?_
        refine anyK_one 15 (by kernel_rfl) ?_
        refine stepK_run rfl ?_
        intro w12 h12 K2 hK2
        replace HF := hide (HF.out.up h12)
        replace HE := hide (HE.out.trans h12)
        replace HP := hide (HP.out.of_all h12)
        replace HS := hide (HS.out.ext h12 (World.block_lt_of_cell? _ _ (HS.out 0 _ rfl).1))
        replace HT := hide (HT.out.ext h12 (World.block_lt_of_cell? _ _ (HT.out 0 _ rfl).1))
        replace HC := hide (HC.out.of_all h12)
        clear h12
        rw [if_pos (show _ = true by kernel_rfl)]
        refine wp_skip (w' := putL T 0 [.int .u32 (blocksV h (catF f n (padV many)) ((n + (9 + padZ many)) / 64) 0 % 4294967296), .int .u32 (blocksV h (catF f n (padV many)) ((n + (9 + padZ many)) / 64) 1 % 4294967296), .int .u32 (blocksV h (catF f n (padV many)) ((n + (9 + padZ many)) / 64) 2 % 4294967296), .int .u32 (blocksV h (catF f n (padV many)) ((n + (9 + padZ many)) / 64) 3 % 4294967296), .int .u32 (blocksV h (catF f n (padV many)) ((n + (9 + padZ many)) / 64) 4 % 4294967296), .int .u32 (blocksV h (catF f n (padV many)) ((n + (9 + padZ many)) / 64) 5 % 4294967296), .int .u32 (blocksV h (catF f n (padV many)) ((n + (9 + padZ many)) / 64) 6 % 4294967296), .int .u32 (blocksV h (catF f n (padV many)) ((n + (9 + padZ many)) / 64) 7 % 4294967296)] w12) ?_ ?_
        · show ((do Instr.storeAt 113 (.pointer (some ⟨T, 0, none⟩)) (.agg ([.int .u32 (blocksV h (catF f n (padV many)) ((n + (9 + padZ many)) / 64) 0 % 4294967296), .int .u32 (blocksV h (catF f n (padV many)) ((n + (9 + padZ many)) / 64) 1 % 4294967296), .int .u32 (blocksV h (catF f n (padV many)) ((n + (9 + padZ many)) / 64) 2 % 4294967296), .int .u32 (blocksV h (catF f n (padV many)) ((n + (9 + padZ many)) / 64) 3 % 4294967296), .int .u32 (blocksV h (catF f n (padV many)) ((n + (9 + padZ many)) / 64) 4 % 4294967296), .int .u32 (blocksV h (catF f n (padV many)) ((n + (9 + padZ many)) / 64) 5 % 4294967296), .int .u32 (blocksV h (catF f n (padV many)) ((n + (9 + padZ many)) / 64) 6 % 4294967296), .int .u32 (blocksV h (catF f n (padV many)) ((n + (9 + padZ many)) / 64) 7 % 4294967296)] : List Value).toArray); pure .skip : Sem Next)).run Try.prog w12 = _
          rw [Sem.run_bind, run_store8 [.int .u32 (blocksV h (catF f n (padV many)) ((n + (9 + padZ many)) / 64) 0 % 4294967296), .int .u32 (blocksV h (catF f n (padV many)) ((n + (9 + padZ many)) / 64) 1 % 4294967296), .int .u32 (blocksV h (catF f n (padV many)) ((n + (9 + padZ many)) / 64) 2 % 4294967296), .int .u32 (blocksV h (catF f n (padV many)) ((n + (9 + padZ many)) / 64) 3 % 4294967296), .int .u32 (blocksV h (catF f n (padV many)) ((n + (9 + padZ many)) / 64) 4 % 4294967296), .int .u32 (blocksV h (catF f n (padV many)) ((n + (9 + padZ many)) / 64) 5 % 4294967296), .int .u32 (blocksV h (catF f n (padV many)) ((n + (9 + padZ many)) / 64) 6 % 4294967296), .int .u32 (blocksV h (catF f n (padV many)) ((n + (9 + padZ many)) / 64) 7 % 4294967296)] rfl (fun v hv => by simp at hv; rcases hv with rfl | rfl | rfl | rfl | rfl | rfl | rfl | rfl <;> rfl) _ w12 (fun j hj => by rw [(HT.out j _ (zero_at hj _)).1]; rfl) (fun j hj => (HT.out j _ (zero_at hj _)).2)]
          rfl
        refine hK2 _ _ (Grw.putL (x1 _ hT.out) _ _ _ (.of_ext HE.out)) ?_
        clear hK2 K2
        refine anyK_take 16 1 0 rfl (by decide) (by kernel_rfl) (fun _ _ d _ _ h => by cases d <;> exact h) ?_
        repeat (refine headC_step (fun K hK => ?_); go_simp; first | (refine hK _ ?_; clear hK K) | (apply Exists.intro; refine ⟨fun _ => ?_, hK _ ?_⟩; (fail); clear hK K))
        refine headC_nil ?_
        refine anyK_done (by kernel_rfl) ?_ 0
        intro w13 h13
        have e9 : Ext w1 w13 := (HE.out.putL hT.out _).trans h13
        exact HLEAF.out _ _ _ _ _ _ _ _ _ _ _ _ _ _ _ _ _ _ _ _ _ _ _ _ _ _ _ _ _ _ _ _ _ _ T w13 (HW0.out.trans e9) ((HT.out.put [.int .u32 (blocksV h (catF f n (padV many)) ((n + (9 + padZ many)) / 64) 0 % 4294967296), .int .u32 (blocksV h (catF f n (padV many)) ((n + (9 + padZ many)) / 64) 1 % 4294967296), .int .u32 (blocksV h (catF f n (padV many)) ((n + (9 + padZ many)) / 64) 2 % 4294967296), .int .u32 (blocksV h (catF f n (padV many)) ((n + (9 + padZ many)) / 64) 3 % 4294967296), .int .u32 (blocksV h (catF f n (padV many)) ((n + (9 + padZ many)) / 64) 4 % 4294967296), .int .u32 (blocksV h (catF f n (padV many)) ((n + (9 + padZ many)) / 64) 5 % 4294967296), .int .u32 (blocksV h (catF f n (padV many)) ((n + (9 + padZ many)) / 64) 6 % 4294967296), .int .u32 (blocksV h (catF f n (padV many)) ((n + (9 + padZ many)) / 64) 7 % 4294967296)] rfl).ext h13 (by rw [size_putL]; exact World.block_lt_of_cell? _ _ (HT.out 0 _ (zero_at (by omega) _)).1))
    · skip
      refine stepK_run rfl ?_
      intro w4 h4 K2 hK2
      replace HF := hide (HF.out.up h4)
      replace HE := hide (HE.out.trans h4)
      replace HP := hide (HP.out.of_all h4)
      clear h4
      rw [if_pos (show _ = true by kernel_rfl)]
      have e4 := Ext.alloc w4 (.cells (List.replicate 8 (.int .u32 0)).toArray 113)
      refine wp_value (v := .pointer (some ⟨w4.heap.size, 0, none⟩)) (w' := w4.alloc (.cells (List.replicate 8 (.int .u32 0)).toArray 113)) (by kernel_rfl) ?_
      refine hK2 _ _ (.of_ext (HE.out.trans e4)) ?_
      clear hK2 K2
      have HT := hide (Blk.alloc w4 (List.replicate 8 (.int .u32 0)) 113)
      have hT : Hid (w1.heap.size ≤ w4.heap.size) := hide (Below.size HE.out)
      replace HF := hide (HF.out.up e4)
      replace HE := hide (HE.out.trans e4)
      replace HP := hide (HP.out.of_all e4)
      clear e4
      generalize w4.alloc (.cells (List.replicate 8 (.int .u32 0)).toArray 113) = w5 at *
      generalize w4.heap.size = T at *
      refine anyK_one 8 (by kernel_rfl) ?_
      refine stepK_run rfl ?_
      intro w6 h6 K2 hK2
      replace HF := hide (HF.out.up h6)
      replace HE := hide (HE.out.trans h6)
      replace HP := hide (HP.out.of_all h6)
      replace HT := hide (HT.out.ext h6 (World.block_lt_of_cell? _ _ (HT.out 0 _ rfl).1))
      clear h6
      go_simp
      have e6 := Ext.alloc w6 (.cells #[.slice r n cap, .slice pa (9 + padZ many) pc] 22)
      refine hK2 _ _ (.of_ext (HE.out.trans e6)) ?_
      clear hK2 K2
      have HS := hide (Blk.alloc w6 [.slice r n cap, .slice pa (9 + padZ many) pc] 22)
      replace HF := hide (HF.out.up e6)
      replace HE := hide (HE.out.trans e6)
      replace HP := hide (HP.out.of_all e6)
      replace HT := hide (HT.out.ext e6 (World.block_lt_of_cell? _ _ (HT.out 0 _ rfl).1))
      clear e6
      generalize w6.alloc (.cells #[.slice r n cap, .slice pa (9 + padZ many) pc] 22) = w7 at *
      generalize w6.heap.size = S at *
      refine anyK_one 9 (by kernel_rfl) ?_
      refine stepK_run rfl ?_
      intro w8 h8 K2 hK2
      replace HF := hide (HF.out.up h8)
      replace HE := hide (HE.out.trans h8)
      replace HP := hide (HP.out.of_all h8)
      replace HT := hide (HT.out.ext h8 (World.block_lt_of_cell? _ _ (HT.out 0 _ rfl).1))
      replace HS := hide (HS.out.ext h8 (World.block_lt_of_cell? _ _ (HS.out 0 _ rfl).1))
      clear h8
      go_simp
      refine (concat2_any S 2 r b off n cap f pa pg 0 (9 + padZ many) pc (padV many) w8 HS.out HF.out.rest HP.out (by omega)).mono ?_
      rintro e w9 ⟨ca, cg, cc, rfl, hcg, hcc, hcb, hcO, e8⟩
      refine hK2 _ _ (.of_ext (HE.out.trans e8)) ?_
      clear hK2 K2
      replace HF := hide (HF.out.up e8)
      replace HE := hide (HE.out.trans e8)
      replace HP := hide (HP.out.of_all e8)
      replace HT := hide (HT.out.ext e8 (World.block_lt_of_cell? _ _ (HT.out 0 _ rfl).1))
      replace HS := hide (HS.out.ext e8 (World.block_lt_of_cell? _ _ (HS.out 0 _ rfl).1))
      have HC := hide hcO.toBSeg
      clear e8 hcO hcg
      refine anyK_one 10 (by kernel_rfl) ?_
      refine stepK_run rfl ?_
      intro w10 h10 K2 hK2
      replace HF := hide (HF.out.up h10)
      replace HE := hide (HE.out.trans h10)
      replace HP := hide (HP.out.of_all h10)
      replace HT := hide (HT.out.ext h10 (World.block_lt_of_cell? _ _ (HT.out 0 _ rfl).1))
      replace HS := hide (HS.out.ext h10 (World.block_lt_of_cell? _ _ (HS.out 0 _ rfl).1))
      replace HC := hide (HC.out.of_all h10)
      clear h10
      go_simp
      refine (behind_any h (catF f n (padV many)) ca cg 0 (n + (9 + padZ many)) cc w10 HC.out (by omega) hcc hcb HY.out).mono ?_
      rintro e w11 ⟨ra, roff, rc, rfl, hrB, hrc, e10⟩
      refine hK2 _ _ (.of_ext (HE.out.trans e10)) ?_
      clear hK2 K2 hrB
      replace HF := hide (HF.out.up e10)
      replace HE := hide (HE.out.trans e10)
      replace HP := hide (HP.out.of_all e10)
      replace HT := hide (HT.out.ext e10 (World.block_lt_of_cell? _ _ (HT.out 0 _ rfl).1))
      replace HS := hide (HS.out.ext e10 (World.block_lt_of_cell? _ _ (HS.out 0 _ rfl).1))
      replace HC := hide (HC.out.of_all e10)
      clear e10
      refine anyK_take 11 3 2 rfl (by decide) (by kernel_rfl) (fun _ _ d _ _ h => by cases d <;> exact h) ?_
      repeat (refine headC_step (fun K hK => ?_); go_simp; first | (refine hK _ ?_; clear hK K) | (apply Exists.intro; refine ⟨fun _ => ?_, hK _ ?_⟩; (fail); clear hK K))
      refine headC_nil ?_
      refine anyK_one 15 (by kernel_rfl) ?_
      refine stepK_run rfl ?_
      intro w12 h12 K2 hK2
      replace HF := hide (HF.out.up h12)
      replace HE := hide (HE.out.trans h12)
      replace HP := hide (HP.out.of_all h12)
      replace HT := hide (HT.out.ext h12 (World.block_lt_of_cell? _ _ (HT.out 0 _ rfl).1))
      replace HS := hide (HS.out.ext h12 (World.block_lt_of_cell? _ _ (HS.out 0 _ rfl).1))
      replace HC := hide (HC.out.of_all h12)
      clear h12
      rw [if_pos (show _ = true by kernel_rfl)]
      refine wp_skip (w' := putL T 0 [.int .u32 (blocksV h (catF f n (padV many)) ((n + (9 + padZ many)) / 64) 0 % 4294967296), .int .u32 (blocksV h (catF f n (padV many)) ((n + (9 + padZ many)) / 64) 1 % 4294967296), .int .u32 (blocksV h (catF f n (padV many)) ((n + (9 + padZ many)) / 64) 2 % 4294967296), .int .u32 (blocksV h (catF f n (padV many)) ((n + (9 + padZ many)) / 64) 3 % 4294967296), .int .u32 (blocksV h (catF f n (padV many)) ((n + (9 + padZ many)) / 64) 4 % 4294967296), .int .u32 (blocksV h (catF f n (padV many)) ((n + (9 + padZ many)) / 64) 5 % 4294967296), .int .u32 (blocksV h (catF f n (padV many)) ((n + (9 + padZ many)) / 64) 6 % 4294967296), .int .u32 (blocksV h (catF f n (padV many)) ((n + (9 + padZ many)) / 64) 7 % 4294967296)] w12) ?_ ?_
      · show ((do Instr.storeAt 113 (.pointer (some ⟨T, 0, none⟩)) (.agg ([.int .u32 (blocksV h (catF f n (padV many)) ((n + (9 + padZ many)) / 64) 0 % 4294967296), .int .u32 (blocksV h (catF f n (padV many)) ((n + (9 + padZ many)) / 64) 1 % 4294967296), .int .u32 (blocksV h (catF f n (padV many)) ((n + (9 + padZ many)) / 64) 2 % 4294967296), .int .u32 (blocksV h (catF f n (padV many)) ((n + (9 + padZ many)) / 64) 3 % 4294967296), .int .u32 (blocksV h (catF f n (padV many)) ((n + (9 + padZ many)) / 64) 4 % 4294967296), .int .u32 (blocksV h (catF f n (padV many)) ((n + (9 + padZ many)) / 64) 5 % 4294967296), .int .u32 (blocksV h (catF f n (padV many)) ((n + (9 + padZ many)) / 64) 6 % 4294967296), .int .u32 (blocksV h (catF f n (padV many)) ((n + (9 + padZ many)) / 64) 7 % 4294967296)] : List Value).toArray); pure .skip : Sem Next)).run Try.prog w12 = _
        rw [Sem.run_bind, run_store8 [.int .u32 (blocksV h (catF f n (padV many)) ((n + (9 + padZ many)) / 64) 0 % 4294967296), .int .u32 (blocksV h (catF f n (padV many)) ((n + (9 + padZ many)) / 64) 1 % 4294967296), .int .u32 (blocksV h (catF f n (padV many)) ((n + (9 + padZ many)) / 64) 2 % 4294967296), .int .u32 (blocksV h (catF f n (padV many)) ((n + (9 + padZ many)) / 64) 3 % 4294967296), .int .u32 (blocksV h (catF f n (padV many)) ((n + (9 + padZ many)) / 64) 4 % 4294967296), .int .u32 (blocksV h (catF f n (padV many)) ((n + (9 + padZ many)) / 64) 5 % 4294967296), .int .u32 (blocksV h (catF f n (padV many)) ((n + (9 + padZ many)) / 64) 6 % 4294967296), .int .u32 (blocksV h (catF f n (padV many)) ((n + (9 + padZ many)) / 64) 7 % 4294967296)] rfl (fun v hv => by simp at hv; rcases hv with rfl | rfl | rfl | rfl | rfl | rfl | rfl | rfl <;> rfl) _ w12 (fun j hj => by rw [(HT.out j _ (zero_at hj _)).1]; rfl) (fun j hj => (HT.out j _ (zero_at hj _)).2)]
        rfl
      refine hK2 _ _ (Grw.putL (x1 _ hT.out) _ _ _ (.of_ext HE.out)) ?_
      clear hK2 K2
      refine anyK_take 16 1 0 rfl (by decide) (by kernel_rfl) (fun _ _ d _ _ h => by cases d <;> exact h) ?_
      repeat (refine headC_step (fun K hK => ?_); go_simp; first | (refine hK _ ?_; clear hK K) | (apply Exists.intro; refine ⟨fun _ => ?_, hK _ ?_⟩; (fail); clear hK K))
      refine headC_nil ?_
      refine anyK_done (by kernel_rfl) ?_ 0
      intro w13 h13
      have e9 : Ext w1 w13 := (HE.out.putL hT.out _).trans h13
      exact HLEAF.out _ _ _ _ _ _ _ _ _ _ _ _ _ _ _ _ _ _ _ _ _ _ _ _ _ _ _ _ _ _ _ _ _ _ T w13 (HW0.out.trans e9) ((HT.out.put [.int .u32 (blocksV h (catF f n (padV many)) ((n + (9 + padZ many)) / 64) 0 % 4294967296), .int .u32 (blocksV h (catF f n (padV many)) ((n + (9 + padZ many)) / 64) 1 % 4294967296), .int .u32 (blocksV h (catF f n (padV many)) ((n + (9 + padZ many)) / 64) 2 % 4294967296), .int .u32 (blocksV h (catF f n (padV many)) ((n + (9 + padZ many)) / 64) 3 % 4294967296), .int .u32 (blocksV h (catF f n (padV many)) ((n + (9 + padZ many)) / 64) 4 % 4294967296), .int .u32 (blocksV h (catF f n (padV many)) ((n + (9 + padZ many)) / 64) 5 % 4294967296), .int .u32 (blocksV h (catF f n (padV many)) ((n + (9 + padZ many)) / 64) 6 % 4294967296), .int .u32 (blocksV h (catF f n (padV many)) ((n + (9 + padZ many)) / 64) 7 % 4294967296)] rfl).ext h13 (by rw [size_putL]; exact World.block_lt_of_cell? _ _ (HT.out 0 _ (zero_at (by omega) _)).1))
  · skip
    refine stepK_run rfl ?_
    intro w2 h2 K2 hK2
    replace HF := hide (HF.out.up h2)
    replace HE := hide (HE.out.trans h2)
    clear h2
    rw [if_pos (show _ = true by kernel_rfl)]
    have e2 := Ext.alloc w2 (.cells (List.replicate 8 (.int .u32 0)).toArray 113)
    refine wp_value (v := .pointer (some ⟨w2.heap.size, 0, none⟩)) (w' := w2.alloc (.cells (List.replicate 8 (.int .u32 0)).toArray 113)) (by kernel_rfl) ?_
    refine hK2 _ _ (.of_ext (HE.out.trans e2)) ?_
    clear hK2 K2
    have HT := hide (Blk.alloc w2 (List.replicate 8 (.int .u32 0)) 113)
    have hT : Hid (w1.heap.size ≤ w2.heap.size) := hide (Below.size HE.out)
    replace HF := hide (HF.out.up e2)
    replace HE := hide (HE.out.trans e2)
    clear e2
    generalize w2.alloc (.cells (List.replicate 8 (.int .u32 0)).toArray 113) = w3 at *
    generalize w2.heap.size = T at *
    refine anyK_one 7 (by kernel_rfl) ?_
    refine stepK_run rfl ?_
    intro w4 h4 K2 hK2
    replace HF := hide (HF.out.up h4)
    replace HE := hide (HE.out.trans h4)
    replace HT := hide (HT.out.ext h4 (World.block_lt_of_cell? _ _ (HT.out 0 _ rfl).1))
    clear h4
    go_simp
    refine (padding_any many (by omega) w4).mono ?_
    rintro e w5 ⟨pv, rfl, hpO, e4⟩
    refine hK2 _ _ (.of_ext (HE.out.trans e4)) ?_
    clear hK2 K2
    obtain ⟨pa, pg, pc, rfl, -, -, -, hpB⟩ := owns_seg hpO
    replace HF := hide (HF.out.up e4)
    replace HE := hide (HE.out.trans e4)
    replace HT := hide (HT.out.ext e4 (World.block_lt_of_cell? _ _ (HT.out 0 _ rfl).1))
    have HP := hide hpB.toBSeg
    clear e4 hpO hpB
    refine anyK_one 8 (by kernel_rfl) ?_
    refine stepK_run rfl ?_
    intro w6 h6 K2 hK2
    replace HF := hide (HF.out.up h6)
    replace HE := hide (HE.out.trans h6)
    replace HT := hide (HT.out.ext h6 (World.block_lt_of_cell? _ _ (HT.out 0 _ rfl).1))
    replace HP := hide (HP.out.of_all h6)
    clear h6
    go_simp
    have e6 := Ext.alloc w6 (.cells #[.slice r n cap, .slice pa (9 + padZ many) pc] 22)
    refine hK2 _ _ (.of_ext (HE.out.trans e6)) ?_
    clear hK2 K2
    have HS := hide (Blk.alloc w6 [.slice r n cap, .slice pa (9 + padZ many) pc] 22)
    replace HF := hide (HF.out.up e6)
    replace HE := hide (HE.out.trans e6)
    replace HT := hide (HT.out.ext e6 (World.block_lt_of_cell? _ _ (HT.out 0 _ rfl).1))
    replace HP := hide (HP.out.of_all e6)
    clear e6
    generalize w6.alloc (.cells #[.slice r n cap, .slice pa (9 + padZ many) pc] 22) = w7 at *
    generalize w6.heap.size = S at *
    refine anyK_one 9 (by kernel_rfl) ?_
    refine stepK_run rfl ?_
    intro w8 h8 K2 hK2
    replace HF := hide (HF.out.up h8)
    replace HE := hide (HE.out.trans h8)
    replace HT := hide (HT.out.ext h8 (World.block_lt_of_cell? _ _ (HT.out 0 _ rfl).1))
    replace HP := hide (HP.out.of_all h8)
    replace HS := hide (HS.out.ext h8 (World.block_lt_of_cell? _ _ (HS.out 0 _ rfl).1))
    clear h8
    go_simp
    refine (concat2_any S 2 r b off n cap f pa pg 0 (9 + padZ many) pc (padV many) w8 HS.out HF.out.rest HP.out (by omega)).mono ?_
    rintro e w9 ⟨ca, cg, cc, rfl, hcg, hcc, hcb, hcO, e8⟩
    refine hK2 _ _ (.of_ext (HE.out.trans e8)) ?_
    clear hK2 K2
    replace HF := hide (HF.out.up e8)
    replace HE := hide (HE.out.trans e8)
    replace HT := hide (HT.out.ext e8 (World.block_lt_of_cell? _ _ (HT.out 0 _ rfl).1))
    replace HP := hide (HP.out.of_all e8)
    replace HS := hide (HS.out.ext e8 (World.block_lt_of_cell? _ _ (HS.out 0 _ rfl).1))
    have HC := hide hcO.toBSeg
    clear e8 hcO hcg
    refine anyK_one 10 (by kernel_rfl) ?_
    refine stepK_run rfl ?_
    intro w10 h10 K2 hK2
    replace HF := hide (HF.out.up h10)
    replace HE := hide (HE.out.trans h10)
    replace HT := hide (HT.out.ext h10 (World.block_lt_of_cell? _ _ (HT.out 0 _ rfl).1))
    replace HP := hide (HP.out.of_all h10)
    replace HS := hide (HS.out.ext h10 (World.block_lt_of_cell? _ _ (HS.out 0 _ rfl).1))
    replace HC := hide (HC.out.of_all h10)
    clear h10
    go_simp
    refine (behind_any h (catF f n (padV many)) ca cg 0 (n + (9 + padZ many)) cc w10 HC.out (by omega) hcc hcb HY.out).mono ?_
    rintro e w11 ⟨ra, roff, rc, rfl, hrB, hrc, e10⟩
    refine hK2 _ _ (.of_ext (HE.out.trans e10)) ?_
    clear hK2 K2 hrB
    replace HF := hide (HF.out.up e10)
    replace HE := hide (HE.out.trans e10)
    replace HT := hide (HT.out.ext e10 (World.block_lt_of_cell? _ _ (HT.out 0 _ rfl).1))
    replace HP := hide (HP.out.of_all e10)
    replace HS := hide (HS.out.ext e10 (World.block_lt_of_cell? _ _ (HS.out 0 _ rfl).1))
    replace HC := hide (HC.out.of_all e10)
    clear e10
    refine anyK_take 11 3 2 rfl (by decide) (by kernel_rfl) (fun _ _ d _ _ h => by cases d <;> exact h) ?_
    repeat (refine headC_step (fun K hK => ?_); go_simp; first | (refine hK _ ?_; clear hK K) | (apply Exists.intro; refine ⟨fun _ => ?_, hK _ ?_⟩; (fail); clear hK K))
    refine headC_nil ?_
    refine anyK_one 15 (by kernel_rfl) ?_
    refine stepK_run rfl ?_
    intro w12 h12 K2 hK2
    replace HF := hide (HF.out.up h12)
    replace HE := hide (HE.out.trans h12)
    replace HT := hide (HT.out.ext h12 (World.block_lt_of_cell? _ _ (HT.out 0 _ rfl).1))
    replace HP := hide (HP.out.of_all h12)
    replace HS := hide (HS.out.ext h12 (World.block_lt_of_cell? _ _ (HS.out 0 _ rfl).1))
    replace HC := hide (HC.out.of_all h12)
    clear h12
    rw [if_pos (show _ = true by kernel_rfl)]
    refine wp_skip (w' := putL T 0 [.int .u32 (blocksV h (catF f n (padV many)) ((n + (9 + padZ many)) / 64) 0 % 4294967296), .int .u32 (blocksV h (catF f n (padV many)) ((n + (9 + padZ many)) / 64) 1 % 4294967296), .int .u32 (blocksV h (catF f n (padV many)) ((n + (9 + padZ many)) / 64) 2 % 4294967296), .int .u32 (blocksV h (catF f n (padV many)) ((n + (9 + padZ many)) / 64) 3 % 4294967296), .int .u32 (blocksV h (catF f n (padV many)) ((n + (9 + padZ many)) / 64) 4 % 4294967296), .int .u32 (blocksV h (catF f n (padV many)) ((n + (9 + padZ many)) / 64) 5 % 4294967296), .int .u32 (blocksV h (catF f n (padV many)) ((n + (9 + padZ many)) / 64) 6 % 4294967296), .int .u32 (blocksV h (catF f n (padV many)) ((n + (9 + padZ many)) / 64) 7 % 4294967296)] w12) ?_ ?_
    · show ((do Instr.storeAt 113 (.pointer (some ⟨T, 0, none⟩)) (.agg ([.int .u32 (blocksV h (catF f n (padV many)) ((n + (9 + padZ many)) / 64) 0 % 4294967296), .int .u32 (blocksV h (catF f n (padV many)) ((n + (9 + padZ many)) / 64) 1 % 4294967296), .int .u32 (blocksV h (catF f n (padV many)) ((n + (9 + padZ many)) / 64) 2 % 4294967296), .int .u32 (blocksV h (catF f n (padV many)) ((n + (9 + padZ many)) / 64) 3 % 4294967296), .int .u32 (blocksV h (catF f n (padV many)) ((n + (9 + padZ many)) / 64) 4 % 4294967296), .int .u32 (blocksV h (catF f n (padV many)) ((n + (9 + padZ many)) / 64) 5 % 4294967296), .int .u32 (blocksV h (catF f n (padV many)) ((n + (9 + padZ many)) / 64) 6 % 4294967296), .int .u32 (blocksV h (catF f n (padV many)) ((n + (9 + padZ many)) / 64) 7 % 4294967296)] : List Value).toArray); pure .skip : Sem Next)).run Try.prog w12 = _
      rw [Sem.run_bind, run_store8 [.int .u32 (blocksV h (catF f n (padV many)) ((n + (9 + padZ many)) / 64) 0 % 4294967296), .int .u32 (blocksV h (catF f n (padV many)) ((n + (9 + padZ many)) / 64) 1 % 4294967296), .int .u32 (blocksV h (catF f n (padV many)) ((n + (9 + padZ many)) / 64) 2 % 4294967296), .int .u32 (blocksV h (catF f n (padV many)) ((n + (9 + padZ many)) / 64) 3 % 4294967296), .int .u32 (blocksV h (catF f n (padV many)) ((n + (9 + padZ many)) / 64) 4 % 4294967296), .int .u32 (blocksV h (catF f n (padV many)) ((n + (9 + padZ many)) / 64) 5 % 4294967296), .int .u32 (blocksV h (catF f n (padV many)) ((n + (9 + padZ many)) / 64) 6 % 4294967296), .int .u32 (blocksV h (catF f n (padV many)) ((n + (9 + padZ many)) / 64) 7 % 4294967296)] rfl (fun v hv => by simp at hv; rcases hv with rfl | rfl | rfl | rfl | rfl | rfl | rfl | rfl <;> rfl) _ w12 (fun j hj => by rw [(HT.out j _ (zero_at hj _)).1]; rfl) (fun j hj => (HT.out j _ (zero_at hj _)).2)]
      rfl
    refine hK2 _ _ (Grw.putL (x1 _ hT.out) _ _ _ (.of_ext HE.out)) ?_
    clear hK2 K2
    refine anyK_take 16 1 0 rfl (by decide) (by kernel_rfl) (fun _ _ d _ _ h => by cases d <;> exact h) ?_
    repeat (refine headC_step (fun K hK => ?_); go_simp; first | (refine hK _ ?_; clear hK K) | (apply Exists.intro; refine ⟨fun _ => ?_, hK _ ?_⟩; (fail); clear hK K))
    refine headC_nil ?_
    refine anyK_done (by kernel_rfl) ?_ 0
    intro w13 h13
    have e9 : Ext w1 w13 := (HE.out.putL hT.out _).trans h13
    exact HLEAF.out _ _ _ _ _ _ _ _ _ _ _ _ _ _ _ _ _ _ _ _ _ _ _ _ _ _ _ _ _ _ _ _ _ _ T w13 (HW0.out.trans e9) ((HT.out.put [.int .u32 (blocksV h (catF f n (padV many)) ((n + (9 + padZ many)) / 64) 0 % 4294967296), .int .u32 (blocksV h (catF f n (padV many)) ((n + (9 + padZ many)) / 64) 1 % 4294967296), .int .u32 (blocksV h (catF f n (padV many)) ((n + (9 + padZ many)) / 64) 2 % 4294967296), .int .u32 (blocksV h (catF f n (padV many)) ((n + (9 + padZ many)) / 64) 3 % 4294967296), .int .u32 (blocksV h (catF f n (padV many)) ((n + (9 + padZ many)) / 64) 4 % 4294967296), .int .u32 (blocksV h (catF f n (padV many)) ((n + (9 + padZ many)) / 64) 5 % 4294967296), .int .u32 (blocksV h (catF f n (padV many)) ((n + (9 + padZ many)) / 64) 6 % 4294967296), .int .u32 (blocksV h (catF f n (padV many)) ((n + (9 + padZ many)) / 64) 7 % 4294967296)] rfl).ext h13 (by rw [size_putL]; exact World.block_lt_of_cell? _ _ (HT.out 0 _ (zero_at (by omega) _)).1))

end Go.Proofs.Ytjkojofpkeglpab
