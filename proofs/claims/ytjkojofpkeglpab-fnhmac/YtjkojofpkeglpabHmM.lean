/- Walks: Hmac of the program and of the model. -/
import Derived.Test.YtjkojofpkeglpabHmK
import Derived.Test.YtjkojofpkeglpabShaG
namespace Go.Proofs.Ytjkojofpkeglpab
set_option linter.unusedVariables false
set_option linter.unusedSimpArgs false
open Go.RowKit

/-- The key that is used: a long one's digest. -/
def keyN (n : Nat) : Nat := if n ≤ 64 then n else 32
def keyK (f : Nat → Int) (n : Nat) : Nat → Int := if n ≤ 64 then f else shaF f n

theorem keyBlock_any (a : Option Addr) (b off n cap : Nat) (f : Nat → Int) (w : World) (hs : BSeg w a b off n f) (hn : n ≤ 10000) (hby : ∀ i, i < n → 0 ≤ f i ∧ f i < 256) :
    Calls Try.prog 42 #[.slice a n cap] w fun e w' => e = .returned (.agg (bkC (kbF (keyK f n) (keyN n))).toArray) ∧ Ext w w' := by
  unfold keyK keyN
  by_cases h : n ≤ 64
  · rw [if_pos h, if_pos h]; exact keyBlock_short a b off n cap f w hs h
  · rw [if_neg h, if_neg h]; exact keyBlock_long a b off n cap f 32 rfl w hs (by omega) (by omega) hby
theorem l5Pad_any (a : Option Addr) (b off n cap : Nat) (f : Nat → Int) (y : Int) (w : World) (hs : BSeg w a b off n f) (hn : n ≤ 10000) (hby : ∀ i, i < n → 0 ≤ f i ∧ f i < 256) :
    Calls Try.prog 46 #[.slice a n cap, .int .u8 y] w fun e w' => GivesR w 64 (padB (keyK f n) (keyN n) y) e w' := by
  unfold keyK keyN
  by_cases h : n ≤ 64
  · rw [if_pos h, if_pos h]; exact l5Pad_short a b off n cap f y w hs h
  · rw [if_neg h, if_neg h]; exact l5Pad_long a b off n cap f 32 rfl y w hs (by omega) (by omega) hby

/-- What Hmac tells. -/
def innF (f : Nat → Int) (n : Nat) (fd : Nat → Int) (m : Nat) : Nat → Int := shaF (catF (padB (keyK f n) (keyN n) 54) 64 fd) (64 + m)
def hmacF (f : Nat → Int) (n : Nat) (fd : Nat → Int) (m : Nat) : Nat → Int := shaF (catF (padB (keyK f n) (keyN n) 92) 64 (innF f n fd m)) (64 + 32)

theorem xor8_bound (x y : Int) : 0 ≤ bits .xor .u8 x y ∧ bits .xor .u8 x y < 256 := by
  unfold bits; rw [IntKind.wrap_u8]; omega
theorem padB_cat {kf : Nat → Int} {kn : Nat} {y : Int} {g : Nat → Int} {m : Nat} (h : ∀ i, i < m → 0 ≤ g i ∧ g i < 256) : ∀ i, i < 64 + m → 0 ≤ catF (padB kf kn y) 64 g i ∧ catF (padB kf kn y) 64 g i < 256 := fun i hi => by
  unfold catF
  split
  · exact xor8_bound _ _
  · exact h _ (by omega)
theorem shaF_bound (f : Nat → Int) (m i : Nat) : 0 ≤ shaF f m i ∧ shaF f m i < 256 := by
  unfold shaF stB
  obtain ⟨h0, h1⟩ := endV_bound (fun i => blocksV firstV f (m / 64) i % 4294967296) (fun i => f (64 * (m / 64) + i)) (m % 64) m (i / 4)
  exact wb_bound _ h0 h1 _

set_option maxHeartbeats 3200000 in
set_option maxRecDepth 100000 in
theorem specHmac_yes (a : Option Addr) (b off n cap : Nat) (f : Nat → Int) (da : Option Addr) (db doff m dcap : Nat) (fd : Nat → Int) (w : World) (hs : BSeg w a b off n f) (hd : BSeg w da db doff m fd) (hn : n ≤ 10000) (hm : m ≤ 10000) (hby : ∀ i, i < n → 0 ≤ f i ∧ f i < 256) (hdy : ∀ i, i < m → 0 ≤ fd i ∧ fd i < 256) :
    Calls Try.prog 12 #[.slice a n cap, .slice da m dcap] w fun e w' => GivesBo w 32 (hmacF f n fd m) true e w' := by
  have Hs := hide hs
  have Hd := hide hd
  have Hy := hide hby
  have Hdy := hide hdy
  have q1 : ¬ (10000 : Int) < (n : Int) := by omega
  have q2 : ¬ (10000 : Int) < (m : Int) := by omega
  clear hs hd hby hdy
  go_enter Try.func12, Try.ntmps12
  go_wp2_with fail
  refine (l5Pad_any a b off n cap f 54 w Hs.out hn Hy.out).mono ?_
  rintro e w1 ⟨v1, rfl, hO1, h1⟩
  have HO1 := hide hO1
  have HE1 := hide h1
  have Hd1 := hide (Hd.out.of_all h1)
  clear hO1 h1
  go_wp2_with (at_builtin; refine wpList_append_bs rfl _ _ rfl w.heap.size _ 64 _ rfl HO1.out _ db doff m dcap fd rfl Hd1.out (by omega) (Below.size HE1.out) ?_)
  intro v2 w2 hO2 h2
  rw [byts_append] at hO2
  obtain ⟨sa, sg, sc, rfl, -, hsB⟩ := bseg_of_owns hO2
  have HsB := hide hsB
  have HE2 : Hid (Ext w w2) := hide (Below.trans HE1.out h2)
  clear hO2 h2 hsB HO1 HE1 Hd1
  go_wp2_with fail
  refine (specSha_yes sa sg 0 (64 + m) sc _ w2 (by omega) HsB.out (padB_cat Hdy.out)).mono ?_
  rintro e w3 ⟨v3, rfl, hO3, h3⟩
  obtain ⟨xa, xg, xc, rfl, -, hxB⟩ := bseg_of_owns hO3
  have HxB := hide hxB
  have HE3 := hide (HE2.out.trans h3)
  clear hO3 h3 hxB HsB HE2
  go_wp2_with fail
  refine (l5Pad_any a b off n cap f 92 w3 (Hs.out.of_all HE3.out) hn Hy.out).mono ?_
  rintro e w4 ⟨v4, rfl, hO4, h4⟩
  have HO4 := hide (owns_mono hO4 (Below.size HE3.out))
  have HE4 := hide (HE3.out.trans h4)
  have HxB4 := hide (HxB.out.of_all h4)
  clear hO4 h4 HxB HE3
  go_wp2_with (at_builtin; refine wpList_append_bs rfl _ _ rfl w.heap.size _ 64 _ rfl HO4.out _ xg 0 32 xc (innF f n fd m) rfl HxB4.out (by omega) (Below.size HE4.out) ?_)
  intro v5 w5 hO5 h5
  rw [byts_append] at hO5
  obtain ⟨ya, yg, yc, rfl, -, hyB⟩ := bseg_of_owns hO5
  have HyB := hide hyB
  have HE5 : Hid (Ext w w5) := hide (Below.trans HE4.out h5)
  clear hO5 h5 hyB HO4 HE4 HxB4
  go_wp2_with fail
  refine (specSha_yes ya yg 0 (64 + 32) yc _ w5 (by omega) HyB.out (padB_cat (fun i _ => shaF_bound _ _ i))).mono ?_
  rintro e w6 ⟨v6, rfl, hO6, h6⟩
  obtain ⟨za, zg, zc, rfl, hzg, -, -, hzB⟩ := owns_seg hO6
  have HzB := hide hzB
  have HE6 := hide (HE5.out.trans h6)
  have Hzg : Hid (w.heap.size ≤ zg) := hide (Nat.le_trans (Below.size HE5.out) hzg)
  clear hO6 h6 hzB HyB HE5 hzg
  go_wp2
  go_ret2
  exact ⟨za, zg, zc, rfl, Hzg.out, HzB.out, HE6.out⟩

set_option maxHeartbeats 3200000 in
set_option maxRecDepth 100000 in
theorem implHmac_yes (a : Option Addr) (b off n cap : Nat) (f : Nat → Int) (da : Option Addr) (db doff m dcap : Nat) (fd : Nat → Int) (w : World) (hs : BSeg w a b off n f) (hd : BSeg w da db doff m fd) (hn : n ≤ 10000) (hm : m ≤ 10000) (hby : ∀ i, i < n → 0 ≤ f i ∧ f i < 256) (hdy : ∀ i, i < m → 0 ≤ fd i ∧ fd i < 256) :
    Calls Try.prog 11 #[.slice a n cap, .slice da m dcap] w fun e w' => GivesBo w 32 (hmacF f n fd m) true e w' := by
  have Hd := hide hd
  have Hdy := hide hdy
  have HKb := hide (keyBlock_any a b off n cap f w hs hn hby)
  have q1 : ¬ (10000 : Int) < (n : Int) := by omega
  have q2 : ¬ (10000 : Int) < (m : Int) := by omega
  obtain ⟨KF, hKF⟩ : ∃ KF : Nat → Int, kbF (keyK f n) (keyN n) = KF := ⟨_, rfl⟩
  rw [hKF] at HKb
  have HM : Hid (∀ (y : Int) (w : World), Calls Try.prog 44 #[.agg (bkC KF).toArray, .int .u8 y] w fun e w' => GivesR w 64 (padB (keyK f n) (keyN n) y) e w') := hide (fun y w => by
    have := marked_any KF y w
    rw [← hKF] at this ⊢
    exact this)
  have Hone := hide (bkC_one KF)
  have Hlen := hide (bkC_len KF)
  clear hs hd hby hdy hKF
  go_enter Try.func11, Try.ntmps11
  go_wp2_with fail
  refine HKb.out.mono ?_
  rintro e w1 ⟨rfl, h1⟩
  rename_i KK4 hK4 Kin hKK
  apply hKK
  clear hKK
  have HK4 := hide hK4
  clear hK4
  refine wpList_step (by kernel_rfl) (wp_value (v := .pointer (some ⟨w1.heap.size, 0, none⟩)) (w' := w1.alloc (.cells (List.replicate 64 (.int .u8 0)).toArray 55)) (by kernel_rfl) ?_)
  have B3 := Blk.alloc w1 (List.replicate 64 (.int .u8 0)) 55
  have E3 := h1.trans (Ext.alloc w1 (.cells (List.replicate 64 (.int .u8 0)).toArray 55))
  generalize w1.alloc (.cells (List.replicate 64 (.int .u8 0)).toArray 55) = w2 at *
  refine wpList_step (by kernel_rfl) (wp_skip (w' := putL w1.heap.size 0 (bkC KF) w2) ?_ ?_)
  · show ((do Instr.storeAt 55 (.pointer (some ⟨w1.heap.size, 0, none⟩)) (.agg (bkC KF).toArray); pure .skip : Sem Next)).run Try.prog w2 = _
    rw [Sem.run_bind, run_storeB _ Hlen.out Hone.out _ w2 (fun j hj => by rw [(B3 j _ (zero_at hj _)).1]; rfl) (fun j hj => (B3 j _ (zero_at hj _)).2)]
    rfl
  have HB := hide (B3.put (bkC KF) (by rw [Hlen.out, List.length_replicate]))
  have HE := hide (E3.putL (Below.size h1) (bkC KF))
  clear B3 E3 HKb Hone
  generalize putL w1.heap.size 0 (bkC KF) w2 = w3 at *
  have HL : Hid (∀ w', Ext w3 w' → (loadVar 55 ⟨w1.heap.size, 0, none⟩).run Try.prog w' = .ok (.agg (bkC KF).toArray) w') := hide (fun w' he => run_loadB _ Hlen.out _ w' (fun j v h => ((HB.out.ext he (World.block_lt_of_cell? _ _ (HB.out 0 _ (bkC_at KF (by omega))).1)) j v h).1))
  clear HB Hlen
  generalize Value.agg (bkC KF).toArray = Z at *
  generalize w1.heap.size = S at *
  show KK4 _ _
  apply HK4.out
  clear HK4
  apply wp_seq_k; intro K5 hK5
  have HK5 := hide hK5
  clear hK5
  refine wp_region_list ?_
  refine wpList_step (by kernel_rfl) (wp_value (v := Z) (w' := w3) (exec_load (HL.out w3 (Ext.refl _))) ?_)
  go_wp2_with fail
  refine (HM.out 54 _).mono ?_
  rintro e w4 ⟨v4, rfl, hO4, h4⟩
  obtain ⟨pa, pg, pc, rfl, -, hpB⟩ := bseg_of_owns hO4
  have X4 := Ext.alloc w4 (.cells #[.slice pa 64 pc, .slice da m dcap] 22)
  have HS4 := hide (Blk.alloc w4 [.slice pa 64 pc, .slice da m dcap] 22)
  have HpB := hide (hpB.of_all X4)
  have HE4 := hide (h4.trans X4)
  have Hd4 := hide (Hd.out.of_all (HE.out.trans (h4.trans X4)))
  clear hO4 h4 hpB X4
  go_wp2_with fail
  refine (concat2_any w4.heap.size 2 pa pg 0 64 pc (padB (keyK f n) (keyN n) 54) da db doff m dcap fd _ HS4.out HpB.out Hd4.out (by omega)).mono ?_
  rintro e w5 ⟨ca, cg, cc, rfl, -, -, -, hcB, h5⟩
  have HcB := hide hcB.toBSeg
  have HE5 := hide (HE4.out.trans h5)
  clear hcB h5 HS4 HpB HE4 Hd4
  go_wp2_with fail
  refine (sha_yes ca cg 0 (64 + m) cc _ w5 (by omega) HcB.out (padB_cat Hdy.out)).mono ?_
  rintro e w6 ⟨v6, rfl, hO6, h6⟩
  obtain ⟨xa, xg, xc, rfl, -, hxB⟩ := bseg_of_owns hO6
  have HxB := hide hxB
  have HE6 := hide (HE5.out.trans h6)
  clear hO6 h6 hxB HcB HE5
  go_wp2
  apply HK5.out
  clear HK5
  apply wp_seq_k; intro K6 hK6
  have HK6 := hide hK6
  clear hK6
  refine wp_region_list ?_
  refine wpList_step (by kernel_rfl) (wp_value (v := Z) (w' := w6) (exec_load (HL.out w6 HE6.out)) ?_)
  go_wp2_with fail
  refine (HM.out 92 _).mono ?_
  rintro e w7 ⟨v7, rfl, hO7, h7⟩
  obtain ⟨pa, pg, pc, rfl, -, hpB⟩ := bseg_of_owns hO7
  have X7 := Ext.alloc w7 (.cells #[.slice pa 64 pc, .slice xa 32 xc] 22)
  have HS7 := hide (Blk.alloc w7 [.slice pa 64 pc, .slice xa 32 xc] 22)
  have HpB := hide (hpB.of_all X7)
  have HE7 := hide (HE6.out.trans (h7.trans X7))
  have HxB7 := hide (HxB.out.of_all (h7.trans X7))
  clear hO7 h7 hpB X7 HxB HE6
  go_wp2_with fail
  refine (concat2_any w7.heap.size 2 pa pg 0 64 pc (padB (keyK f n) (keyN n) 92) xa xg 0 32 xc (innF f n fd m) _ HS7.out HpB.out HxB7.out (by omega)).mono ?_
  rintro e w8 ⟨ca, cg, cc, rfl, -, -, -, hcB, h8⟩
  have HcB := hide hcB.toBSeg
  have HE8 := hide (HE7.out.trans h8)
  clear hcB h8 HS7 HpB HE7 HxB7
  go_wp2_with fail
  refine (sha_yes ca cg 0 (64 + 32) cc _ w8 (by omega) HcB.out (padB_cat (fun i _ => shaF_bound _ _ i))).mono ?_
  rintro e w9 ⟨v9, rfl, hO9, h9⟩
  obtain ⟨za, zg, zc, rfl, hzg, -, -, hzB⟩ := owns_seg hO9
  have HzB := hide hzB
  have HE9 := hide (HE.out.trans (HE8.out.trans h9))
  have Hzg : Hid (w.heap.size ≤ zg) := hide (Nat.le_trans (Below.size (HE.out.trans HE8.out)) hzg)
  clear hO9 h9 hzB HcB HE8 hzg
  go_wp2
  apply HK6.out
  clear HK6
  go_wp2
  go_ret2
  exact ⟨za, zg, zc, rfl, Hzg.out, HzB.out, HE9.out⟩

set_option maxHeartbeats 1600000 in
theorem implHmac_no (a : Option Addr) (n cap : Nat) (da : Option Addr) (m dcap : Nat) (F : Nat → Int) (w : World) (h : ¬ (n ≤ 10000 ∧ m ≤ 10000)) : Calls Try.prog 11 #[.slice a n cap, .slice da m dcap] w fun e w' => GivesBo w 0 F false e w' := by
  by_cases h0 : (10000 : Int) < (n : Int)
  · go_enter Try.func11, Try.ntmps11
    go_wp2
    go_ret2
    exact ⟨_, w.heap.size, _, rfl, Nat.le_refl _, BOwn.nil _ _ _ _ _, Ext.alloc _ _⟩
  · have h1 : (10000 : Int) < (m : Int) := by omega
    clear h
    go_enter Try.func11, Try.ntmps11
    go_wp2
    go_ret2
    exact ⟨_, w.heap.size, _, rfl, Nat.le_refl _, BOwn.nil _ _ _ _ _, Ext.alloc _ _⟩

set_option maxHeartbeats 1600000 in
theorem specHmac_no (a : Option Addr) (n cap : Nat) (da : Option Addr) (m dcap : Nat) (F : Nat → Int) (w : World) (h : ¬ (n ≤ 10000 ∧ m ≤ 10000)) : Calls Try.prog 12 #[.slice a n cap, .slice da m dcap] w fun e w' => GivesBo w 0 F false e w' := by
  by_cases h0 : (10000 : Int) < (n : Int)
  · go_enter Try.func12, Try.ntmps12
    go_wp2
    go_ret2
    exact ⟨_, w.heap.size, _, rfl, Nat.le_refl _, BOwn.nil _ _ _ _ _, Ext.alloc _ _⟩
  · have h1 : (10000 : Int) < (m : Int) := by omega
    clear h
    go_enter Try.func12, Try.ntmps12
    go_wp2
    go_ret2
    exact ⟨_, w.heap.size, _, rfl, Nat.le_refl _, BOwn.nil _ _ _ _ _, Ext.alloc _ _⟩

/-- Whether Hmac answers. -/
def hmacB (n m : Nat) : Bool := decide (n ≤ 10000 ∧ m ≤ 10000)
def hmacN (n m : Nat) : Nat := if n ≤ 10000 ∧ m ≤ 10000 then 32 else 0
theorem implHmac_any (a : Option Addr) (b off n cap : Nat) (f : Nat → Int) (da : Option Addr) (db doff m dcap : Nat) (fd : Nat → Int) (w : World) (hs : BSeg w a b off n f) (hd : BSeg w da db doff m fd) (hby : ∀ i, i < n → 0 ≤ f i ∧ f i < 256) (hdy : ∀ i, i < m → 0 ≤ fd i ∧ fd i < 256) :
    Calls Try.prog 11 #[.slice a n cap, .slice da m dcap] w fun e w' => GivesBo w (hmacN n m) (hmacF f n fd m) (hmacB n m) e w' := by
  unfold hmacN hmacB
  by_cases h : n ≤ 10000 ∧ m ≤ 10000
  · rw [if_pos h, decide_eq_true h]; exact implHmac_yes a b off n cap f da db doff m dcap fd w hs hd h.1 h.2 hby hdy
  · rw [if_neg h, decide_eq_false h]; exact implHmac_no a n cap da m dcap _ w h

theorem specHmac_any (a : Option Addr) (b off n cap : Nat) (f : Nat → Int) (da : Option Addr) (db doff m dcap : Nat) (fd : Nat → Int) (w : World) (hs : BSeg w a b off n f) (hd : BSeg w da db doff m fd) (hby : ∀ i, i < n → 0 ≤ f i ∧ f i < 256) (hdy : ∀ i, i < m → 0 ≤ fd i ∧ fd i < 256) :
    Calls Try.prog 12 #[.slice a n cap, .slice da m dcap] w fun e w' => GivesBo w (hmacN n m) (hmacF f n fd m) (hmacB n m) e w' := by
  unfold hmacN hmacB
  by_cases h : n ≤ 10000 ∧ m ≤ 10000
  · rw [if_pos h, decide_eq_true h]; exact specHmac_yes a b off n cap f da db doff m dcap fd w hs hd h.1 h.2 hby hdy
  · rw [if_neg h, decide_eq_false h]; exact specHmac_no a n cap da m dcap _ w h

end Go.Proofs.Ytjkojofpkeglpab
