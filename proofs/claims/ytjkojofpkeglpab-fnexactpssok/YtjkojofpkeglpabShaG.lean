/- Walks: Short of the model; Mask of the model and of the program. -/
import Derived.Test.YtjkojofpkeglpabShaE
import Derived.Test.YtjkojofpkeglpabIn
namespace Go.Proofs.Ytjkojofpkeglpab
set_option linter.unusedVariables false
set_option linter.unusedSimpArgs false
open Go.RowKit

/-- A new list of bytes, one's own, and ok. -/
def GivesBo (w : World) (M : Nat) (F : Nat → Int) (ok : Bool) (e : Ending) (w' : World) : Prop :=
  ∃ a g cap, e = .returned (.tuple #[.slice a M cap, .bool ok]) ∧ w.heap.size ≤ g ∧ BOwn w' a g 0 M F ∧ Below w.heap.size w w'

set_option maxHeartbeats 3200000 in
set_option maxRecDepth 100000 in
theorem specShort_any (da : Option Addr) (db doff m dcap : Nat) (fd : Nat → Int) (w : World) (hmm : m ≤ 1048576) (hd : BSeg w da db doff m fd) (hdy : ∀ i, i < m → 0 ≤ fd i ∧ fd i < 256) :
    Calls Try.prog 55 #[.slice da m dcap] w fun e w' => GivesBs w (shortN m) (shaF fd m) e w' := by
  have HS := hide (specSha_any da db doff m dcap fd w hmm hd hdy)
  clear hd hdy
  unfold shaN at HS
  unfold shortN
  by_cases h : m ≤ 20000
  · rw [if_pos h] at HS ⊢
    go_enter Try.func55, Try.ntmps55
    go_wp2_with fail
    refine HS.out.mono ?_
    rintro e w1 ⟨v, rfl, hO, hE⟩
    obtain ⟨a, g, cap, rfl, hg, hc, hb, hB⟩ := owns_seg hO
    obtain rfl := hB.at' (by omega)
    have HB := hide (hB.cut (show 8 ≤ 32 by omega))
    have HE := hide hE
    have Hg := hide hg
    have c8 : (8 : Int) ≤ cap := by omega
    clear hO hB hE hg HS
    go_wp2
    go_ret
    exact ⟨_, g, _, rfl, Hg.out, HB.out, HE.out⟩
  · rw [if_neg h] at HS ⊢
    go_enter Try.func55, Try.ntmps55
    go_wp2_with fail
    refine HS.out.mono ?_
    rintro e w1 ⟨v, rfl, hO, hE⟩
    obtain ⟨a, g, cap, rfl, hg, hc, hb, hB⟩ := owns_seg hO
    have HE := hide hE
    have Hg := hide hg
    clear hO hB hE hg HS
    go_wp2
    go_ret
    exact ⟨_, g, _, rfl, Hg.out, BOwn.nil _ _ _ _ _, HE.out⟩

/-- The same, with what its room is. -/
def GivesBc (w : World) (M : Nat) (F : Nat → Int) (ok : Bool) (e : Ending) (w' : World) : Prop :=
  ∃ a g cap, e = .returned (.tuple #[.slice a M cap, .bool ok]) ∧ w.heap.size ≤ g ∧ BOwn w' a g 0 M F ∧ Below w.heap.size w w' ∧ M ≤ cap ∧ cap ≤ 9223372036854775807

/-- What Mask tells, byte by byte. -/
def maskF (f : Nat → Int) (n : Nat) (i : Nat) : Int := shaF (catF f n (wb ((i / 32 : Nat) : Int))) (n + 4) (i % 32)
theorem mask_step (f : Nat → Int) (n k : Nat) : ∀ i, i < 32 * k + 32 → catF (maskF f n) (32 * k) (shaF (catF f n (wb (k : Int))) (n + 4)) i = maskF f n i := fun i hi => by
  unfold catF
  split
  · rfl
  · show _ = shaF _ _ _
    rw [show i / 32 = k by omega, show i % 32 = i - 32 * k by omega]
    rfl
theorem seed_bound {f : Nat → Int} {n k : Nat} (hy : ∀ i, i < n → 0 ≤ f i ∧ f i < 256) (hk : k ≤ 200) : ∀ i, i < n + 4 → 0 ≤ catF f n (wb (k : Int)) i ∧ catF f n (wb (k : Int)) i < 256 := fun i hi => by
  unfold catF
  split
  · exact hy i (by assumption)
  · exact wb_bound _ (by omega) (by omega) _
theorem bseg_of_owns {w : World} {base : Nat} {v : Value} {n : Nat} {f : Nat → Int} (h : w.ownsRow base 5 1 v n (byts f n)) : ∃ a g cap, v = .slice a n cap ∧ n ≤ cap ∧ BSeg w a g 0 n f := by
  obtain ⟨a, g, cap, rfl, -, hc, -, hB⟩ := owns_seg h
  exact ⟨a, g, cap, rfl, hc, hB.toBSeg⟩

/-- Whether Mask answers. -/
def maskB (n : Nat) (N : Int) : Bool := decide (0 ≤ N) && decide (N ≤ 200) && decide (n ≤ 1000)

set_option maxHeartbeats 3200000 in
set_option maxRecDepth 100000 in
theorem implMask_cap (a : Option Addr) (b off n cap : Nat) (f : Nat → Int) (N : Nat) (w : World) (hN : N ≤ 200) (hn : n ≤ 1000) (hs : BSeg w a b off n f) (hy : ∀ i, i < n → 0 ≤ f i ∧ f i < 256) :
    Calls Try.prog 107 #[.slice a n cap, .int .i64 (N : Int)] w fun e w' => GivesBc w N (maskF f n) true e w' := by
  have Hs := hide hs
  have Hy := hide hy
  have n0 : ¬ (N : Int) < 0 := by omega
  have n1 : ¬ (200 : Int) < (N : Int) := by omega
  have n2 : ¬ (1000 : Int) < (n : Int) := by omega
  clear hs hy
  go_enter Try.func107, Try.ntmps107
  have hO0 := World.ownsRow_made (base := w.heap.size) (e := 5) (size := 1) w #[] 0 (Nat.le_refl _) (by simp) rfl
  have HA : Hid ((w.alloc (.cells #[] 5)).ownsRow w.heap.size 5 1 (.slice (some ⟨w.heap.size, 0, none⟩) 0 0) (32 * 0) (byts (maskF f n) (32 * 0)) ∧ Ext w (w.alloc (.cells #[] 5))) := hide ⟨hO0, Ext.alloc _ _⟩
  clear hO0
  go_wp2
  rename_i K hK
  have HK := hide hK
  clear hK
  go_loopw [6, 7] (fun d i wr => ∃ k : Nat, 32 * k ≤ N + 31 ∧ i = .int .u32 (k : Int) ∧ (wr.ownsRow w.heap.size 5 1 d (32 * k) (byts (maskF f n) (32 * k)) ∧ Ext w wr)) (fun d _ _ => 300 - (match d with | .slice _ n _ => n | _ => 0))
  case atStart => exact ⟨0, by omega, rfl, HA.out⟩
  case round =>
    clear HA
    obtain ⟨k, hk, rfl, hO, hE⟩ := hrel
    obtain ⟨da, dg, dc, rfl, hdg, hdc, hdb, hdB⟩ := owns_seg hO
    have HO := hide hO
    have HE := hide hE
    obtain ⟨L, hL⟩ : ∃ L, 32 * k = L := ⟨_, rfl⟩
    by_cases hlt : 32 * k < N
    · have hLN : (L : Int) < N := by omega
      have hk7 : k ≤ 6 := by omega
      have Hst := hide (mask_step f n k)
      rw [hL] at HO Hst ⊢
      have HL := hide hL
      clear hO hE hdB hL
      go_wp2_with fail
      refine (clone_any a b off n cap f wr (Hs.out.of_all HE.out) (by omega)).mono ?_
      rintro e w1 ⟨v1, rfl, hO1, h1⟩
      go_wp2_with fail
      refine (appendWord_any wr.heap.size v1 n f (k : Int) w1 hO1 (by omega) (Below.size h1) (by omega) (by omega)).mono ?_
      rintro e w2 ⟨v2, rfl, hO2, h2⟩
      have E2 : Ext wr w2 := Below.trans h1 h2
      obtain ⟨sa, sg, sc, rfl, -, hsB⟩ := bseg_of_owns hO2
      have HsB := hide hsB
      have HE2 := hide E2
      clear hO1 hO2 h1 h2 E2 hsB
      go_wp2_with fail
      refine (sha_yes sa sg 0 (n + 4) sc _ w2 (by omega) HsB.out (seed_bound Hy.out (by omega))).mono ?_
      rintro e w3 ⟨v3, rfl, hO3, h3⟩
      have E3 := HE2.out.trans h3
      have HO4 := hide (owns_ext' HO.out E3)
      obtain ⟨xa, xg, xc, rfl, -, hxB⟩ := bseg_of_owns hO3
      have HxB := hide hxB
      have HE3 := hide (HE.out.trans E3)
      clear hO3 h3 E3 hxB HsB HE2
      go_wp2_with (at_builtin; refine wpList_append_bs rfl _ _ rfl w.heap.size _ L (byts (maskF f n) L) rfl HO4.out _ xg 0 32 xc (shaF (catF f n (wb (k : Int))) (n + 4)) rfl HxB.out (by omega) (Below.size HE3.out) ?_)
      intro v5 w5 hO5 h5
      rw [byts_append] at hO5
      have HO5 := hide (owns_congr hO5 Hst.out)
      have HE5 : Hid (Ext w w5) := hide (Below.trans HE3.out h5)
      clear hO5 h5 HO4 HxB HE3 HO HE Hst
      go_wp2
      go_roundw
      case rel => exact ⟨k + 1, by omega, by go_num, by have := HL.out; rw [show 32 * (k + 1) = L + 32 by omega]; exact ⟨HO5.out, HE5.out⟩⟩
      case measure =>
        obtain ⟨ya, yg, yc, rfl, -, -⟩ := bseg_of_owns HO5.out
        simp
        omega
    · have hLN : ¬ (L : Int) < N := by omega
      have HB := hide (hdB.cut (show N ≤ 32 * k by omega))
      have Hdg := hide hdg
      have nc : (N : Int) ≤ dc := by omega
      rw [hL] at HO ⊢
      clear hO hE hdB hL
      cases da with
      | none =>
        have HN : N = 0 := by
          cases N with
          | zero => rfl
          | succ N => have := HB.out.at' (Nat.succ_pos _); cases this
        subst HN
        go_wp2
        apply HK.out
        clear HK
        go_wp2
        go_ret2
        exact ⟨_, dg, _, rfl, Hdg.out, HB.out, HE.out, by omega, by omega⟩
      | some ad =>
        go_wp2
        apply HK.out
        clear HK
        go_wp2
        go_ret2
        exact ⟨_, dg, _, rfl, Hdg.out, HB.out, HE.out, by omega, by omega⟩

theorem implMask_yes (a : Option Addr) (b off n cap : Nat) (f : Nat → Int) (N : Nat) (w : World) (hN : N ≤ 200) (hn : n ≤ 1000) (hs : BSeg w a b off n f) (hy : ∀ i, i < n → 0 ≤ f i ∧ f i < 256) :
    Calls Try.prog 107 #[.slice a n cap, .int .i64 (N : Int)] w fun e w' => GivesBo w N (maskF f n) true e w' := by
  refine (implMask_cap a b off n cap f N w hN hn hs hy).mono ?_
  rintro e w' ⟨a, g, c, rfl, h1, h2, h3, -, -⟩
  exact ⟨a, g, c, rfl, h1, h2, h3⟩

set_option maxHeartbeats 3200000 in
set_option maxRecDepth 100000 in
theorem specMask_yes (a : Option Addr) (b off n cap : Nat) (f : Nat → Int) (N : Nat) (w : World) (hN : N ≤ 200) (hn : n ≤ 1000) (hs : BSeg w a b off n f) (hy : ∀ i, i < n → 0 ≤ f i ∧ f i < 256) :
    Calls Try.prog 63 #[.slice a n cap, .int .i64 (N : Int)] w fun e w' => GivesBo w N (maskF f n) true e w' := by
  have Hs := hide hs
  have Hy := hide hy
  have n0 : ¬ (N : Int) < 0 := by omega
  have n1 : ¬ (200 : Int) < (N : Int) := by omega
  have n2 : ¬ (1000 : Int) < (n : Int) := by omega
  clear hs hy
  go_enter Try.func63, Try.ntmps63
  go_wp2_with fail
  refine (l1In_int (N : Int) 0 200 w).mono ?_
  rintro e w0 ⟨rfl, hw0⟩
  replace hw0 := hw0.symm
  subst hw0
  rw [decide_eq_true (show (0 : Int) ≤ (N : Int) by omega), decide_eq_true (show (N : Int) ≤ 200 by omega)]
  have hO0 := World.ownsRow_made (base := w.heap.size) (e := 5) (size := 1) w #[] 0 (Nat.le_refl _) (by simp) rfl
  have HA : Hid ((w.alloc (.cells #[] 5)).ownsRow w.heap.size 5 1 (.slice (some ⟨w.heap.size, 0, none⟩) 0 0) (32 * 0) (byts (maskF f n) (32 * 0)) ∧ Ext w (w.alloc (.cells #[] 5))) := hide ⟨hO0, Ext.alloc _ _⟩
  clear hO0
  go_wp2
  rename_i K hK
  have HK := hide hK
  clear hK
  go_loopw [6, 7] (fun d i wr => ∃ k : Nat, 32 * k ≤ N + 31 ∧ i = .int .i64 (k : Int) ∧ (wr.ownsRow w.heap.size 5 1 d (32 * k) (byts (maskF f n) (32 * k)) ∧ Ext w wr)) (fun d _ _ => 300 - (match d with | .slice _ n _ => n | _ => 0))
  case atStart => exact ⟨0, by omega, rfl, HA.out⟩
  case round =>
    clear HA
    obtain ⟨k, hk, rfl, hO, hE⟩ := hrel
    obtain ⟨da, dg, dc, rfl, hdg, hdc, hdb, hdB⟩ := owns_seg hO
    have HO := hide hO
    have HE := hide hE
    obtain ⟨L, hL⟩ : ∃ L, 32 * k = L := ⟨_, rfl⟩
    by_cases hlt : 32 * k < N
    · have hLN : (L : Int) < N := by omega
      have hk7 : k ≤ 6 := by omega
      have Hst := hide (mask_step f n k)
      rw [hL] at HO Hst ⊢
      have HL := hide hL
      clear hO hE hdB hL
      go_wp2_with fail
      refine (l1Bytes_any a b off n cap f wr (Hs.out.of_all HE.out) (by omega)).mono ?_
      rintro e w1 ⟨v1, rfl, hO1, h1⟩
      have hcell : BSeg (w1.alloc (.cells #[.int .u8 0, .int .u8 0, .int .u8 0, .int .u8 (k : Int)] 5)) (some ⟨w1.heap.size, 0, none⟩) w1.heap.size 0 4 (wb (k : Int)) := ⟨fun _ => rfl, fun i hi => by
        rw [Nat.zero_add]
        have e : i = 0 ∨ i = 1 ∨ i = 2 ∨ i = 3 := by omega
        have hb := Blk.alloc w1 [.int .u8 0, .int .u8 0, .int .u8 0, .int .u8 (k : Int)] 5
        rcases e with rfl | rfl | rfl | rfl
        · rw [show wb (k : Int) 0 = 0 by show (k : Int) / 16777216 = 0; omega]; exact (hb 0 _ rfl).1
        · rw [show wb (k : Int) 1 = 0 by show (k : Int) / 65536 % 256 = 0; omega]; exact (hb 1 _ rfl).1
        · rw [show wb (k : Int) 2 = 0 by show (k : Int) / 256 % 256 = 0; omega]; exact (hb 2 _ rfl).1
        · rw [show wb (k : Int) 3 = k by show (k : Int) % 256 = k; omega]; exact (hb 3 _ rfl).1⟩
      have HC := hide hcell
      have HO1 := hide ((owns_mono hO1 (Below.size HE.out)).alloc (.cells #[.int .u8 0, .int .u8 0, .int .u8 0, .int .u8 (k : Int)] 5))
      have HE1 : Hid (Ext wr (w1.alloc (.cells #[.int .u8 0, .int .u8 0, .int .u8 0, .int .u8 (k : Int)] 5))) := hide (h1.trans (Ext.alloc w1 (.cells #[.int .u8 0, .int .u8 0, .int .u8 0, .int .u8 (k : Int)] 5)))
      have HO1b := hide (hO1.alloc (.cells #[.int .u8 0, .int .u8 0, .int .u8 0, .int .u8 (k : Int)] 5))
      clear hcell hO1 h1
      have k256 : (k : Int) % 256 = k := by omega
      have kw : IntKind.u8.wrap (k : Int) = k := by rw [IntKind.wrap_u8]; omega
      go_wp2_with (at_builtin; refine wpList_append_bs rfl _ _ rfl wr.heap.size _ n (byts f n) rfl HO1b.out _ w1.heap.size 0 4 4 (wb (k : Int)) rfl HC.out (by omega) (Below.size HE1.out) ?_)
      intro v2 w2 hO2 h2
      rw [byts_append] at hO2
      have E2 : Ext wr w2 := Below.trans HE1.out h2
      obtain ⟨sa, sg, sc, rfl, -, hsB⟩ := bseg_of_owns hO2
      have HsB := hide hsB
      have HE2 := hide E2
      clear hO2 h2 E2 hsB HO1 HO1b HC HE1
      go_wp2_with fail
      refine (specSha_yes sa sg 0 (n + 4) sc _ w2 (by omega) HsB.out (seed_bound Hy.out (by omega))).mono ?_
      rintro e w3 ⟨v3, rfl, hO3, h3⟩
      have E3 := HE2.out.trans h3
      have HO4 := hide (owns_ext' HO.out E3)
      obtain ⟨xa, xg, xc, rfl, -, hxB⟩ := bseg_of_owns hO3
      have HxB := hide hxB
      have HE3 := hide (HE.out.trans E3)
      clear hO3 h3 E3 hxB HsB HE2
      go_wp2_with (at_builtin; refine wpList_append_bs rfl _ _ rfl w.heap.size _ L (byts (maskF f n) L) rfl HO4.out _ xg 0 32 xc (shaF (catF f n (wb (k : Int))) (n + 4)) rfl HxB.out (by omega) (Below.size HE3.out) ?_)
      intro v5 w5 hO5 h5
      rw [byts_append] at hO5
      have HO5 := hide (owns_congr hO5 Hst.out)
      have HE5 : Hid (Ext w w5) := hide (Below.trans HE3.out h5)
      clear hO5 h5 HO4 HxB HE3 HO HE Hst
      go_wp2
      go_roundw
      case rel => exact ⟨k + 1, by omega, by go_num, by have := HL.out; rw [show 32 * (k + 1) = L + 32 by omega]; exact ⟨HO5.out, HE5.out⟩⟩
      case measure =>
        obtain ⟨ya, yg, yc, rfl, -, -⟩ := bseg_of_owns HO5.out
        simp
        omega
    · have hLN : ¬ (L : Int) < N := by omega
      have HB := hide (hdB.cut (show N ≤ 32 * k by omega))
      have Hdg := hide hdg
      have nc : (N : Int) ≤ dc := by omega
      rw [hL] at HO ⊢
      clear hO hE hdB hL
      cases da with
      | none =>
        have HN : N = 0 := by
          cases N with
          | zero => rfl
          | succ N => have := HB.out.at' (Nat.succ_pos _); cases this
        subst HN
        go_wp2
        apply HK.out
        clear HK
        go_wp2
        go_ret2
        exact ⟨_, dg, _, rfl, Hdg.out, HB.out, HE.out⟩
      | some ad =>
        go_wp2
        apply HK.out
        clear HK
        go_wp2
        go_ret2
        exact ⟨_, dg, _, rfl, Hdg.out, HB.out, HE.out⟩

set_option maxHeartbeats 1600000 in
theorem implMask_no (a : Option Addr) (n cap : Nat) (F : Nat → Int) (N : Int) (w : World) (h : maskB n N = false) : Calls Try.prog 107 #[.slice a n cap, .int .i64 N] w fun e w' => GivesBo w 0 F false e w' := by
  simp only [maskB, Bool.and_eq_false_iff, decide_eq_false_iff_not] at h
  by_cases h0 : N < 0
  · go_enter Try.func107, Try.ntmps107
    go_wp2
    go_ret2
    exact ⟨_, w.heap.size, _, rfl, Nat.le_refl _, BOwn.nil _ _ _ _ _, Ext.alloc _ _⟩
  · by_cases h1 : (200 : Int) < N
    · go_enter Try.func107, Try.ntmps107
      go_wp2
      go_ret2
      exact ⟨_, w.heap.size, _, rfl, Nat.le_refl _, BOwn.nil _ _ _ _ _, Ext.alloc _ _⟩
    · have h2 : (1000 : Int) < (n : Int) := by omega
      clear h
      go_enter Try.func107, Try.ntmps107
      go_wp2
      go_ret2
      exact ⟨_, w.heap.size, _, rfl, Nat.le_refl _, BOwn.nil _ _ _ _ _, Ext.alloc _ _⟩

set_option maxHeartbeats 1600000 in
theorem specMask_no (a : Option Addr) (n cap : Nat) (F : Nat → Int) (N : Int) (w : World) (h : maskB n N = false) : Calls Try.prog 63 #[.slice a n cap, .int .i64 N] w fun e w' => GivesBo w 0 F false e w' := by
  simp only [maskB, Bool.and_eq_false_iff, decide_eq_false_iff_not] at h
  by_cases h1 : 0 ≤ N ∧ N ≤ 200
  · have h2 : (1000 : Int) < (n : Int) := by omega
    have d : (decide (0 ≤ N) && decide (N ≤ 200)) = true := by simp; omega
    clear h
    go_enter Try.func63, Try.ntmps63
    go_wp2_with fail
    refine (l1In_int N 0 200 w).mono ?_
    rintro e w0 ⟨rfl, hw0⟩
    replace hw0 := hw0.symm
    subst hw0
    rw [d]
    go_wp2
    go_ret2
    exact ⟨_, w.heap.size, _, rfl, Nat.le_refl _, BOwn.nil _ _ _ _ _, Ext.alloc _ _⟩
  · have d : (decide (0 ≤ N) && decide (N ≤ 200)) = false := by simp; omega
    clear h
    go_enter Try.func63, Try.ntmps63
    go_wp2_with fail
    refine (l1In_int N 0 200 w).mono ?_
    rintro e w0 ⟨rfl, hw0⟩
    replace hw0 := hw0.symm
    subst hw0
    rw [d]
    go_wp2
    go_ret2
    exact ⟨_, w.heap.size, _, rfl, Nat.le_refl _, BOwn.nil _ _ _ _ _, Ext.alloc _ _⟩

theorem maskB_true {n : Nat} {N : Int} (h : maskB n N = true) : ∃ M : Nat, N = M ∧ M ≤ 200 ∧ n ≤ 1000 := by
  simp only [maskB, Bool.and_eq_true, decide_eq_true_eq] at h
  exact ⟨N.toNat, by omega, by omega, by omega⟩

/-- How many bytes Mask tells. -/
def maskN (n : Nat) (N : Int) : Nat := if maskB n N then N.toNat else 0

theorem implMask_any (a : Option Addr) (b off n cap : Nat) (f : Nat → Int) (N : Int) (w : World) (hs : BSeg w a b off n f) (hy : ∀ i, i < n → 0 ≤ f i ∧ f i < 256) : Calls Try.prog 107 #[.slice a n cap, .int .i64 N] w fun e w' => GivesBo w (maskN n N) (maskF f n) (maskB n N) e w' := by
  unfold maskN
  cases h : maskB n N
  · exact implMask_no a n cap _ N w h
  · obtain ⟨M, rfl, hM, hn⟩ := maskB_true h
    exact implMask_yes a b off n cap f M w hM hn hs hy

theorem specMask_any (a : Option Addr) (b off n cap : Nat) (f : Nat → Int) (N : Int) (w : World) (hs : BSeg w a b off n f) (hy : ∀ i, i < n → 0 ≤ f i ∧ f i < 256) : Calls Try.prog 63 #[.slice a n cap, .int .i64 N] w fun e w' => GivesBo w (maskN n N) (maskF f n) (maskB n N) e w' := by
  unfold maskN
  cases h : maskB n N
  · exact specMask_no a n cap _ N w h
  · obtain ⟨M, rfl, hM, hn⟩ := maskB_true h
    exact specMask_yes a b off n cap f M w hM hn hs hy

theorem maskN_le (n : Nat) (N : Int) : maskN n N ≤ 1048576 := by
  unfold maskN
  cases h : maskB n N
  · simp
  · obtain ⟨M, rfl, hM, -⟩ := maskB_true h
    simp
    omega

end Go.Proofs.Ytjkojofpkeglpab
