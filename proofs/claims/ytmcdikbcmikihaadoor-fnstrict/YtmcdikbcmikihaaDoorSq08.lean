/- Walks: a head that is read, of the program (written by mkrdh.py). Walks: the model's l7Write: an item and what is below it as bytes. Walks: the model's reader (written by mkrdm.py). What the model's reader hands back. Walks: a leaf that the model's reader reads (written by mkrdq.py). -/
import Derived.Test.YtmcdikbcmikihaaDoorSq07
import Derived.Test.YtmcdikbcmikihaaDoorSq02
import Derived.Test.YtmcdikbcmikihaaDoorSq03
import Derived.Test.YtmcdikbcmikihaaDoorSq06
import Derived.Test.YtmcdikbcmikihaaDoorSq05
namespace Go.Proofs.YtmcdikbcmikihaaDoor

section
set_option linter.unusedVariables false
set_option linter.unusedSimpArgs false

open Go.RowKit

theorem ne_nil_flt (c p : Int) (w : World) : (binOp .neq 46 (.iface 50 (.agg #[.int .i64 c, .int .i64 p])) .nilIface).run Tryd.prog w = .ok (.bool true) w := by kernel_rfl

theorem results_ct {P : Program} {fn : Func} {a b : Nat} {T : TypeId} (hf : fn.results = #[.cell a T, .tmp b]) {tmps : Array Value} {q : Addr} {v u : Value} {W : World} (ht : tmps.getD a undef = .pointer (some q)) (hu : tmps.getD b undef = u) (hl : (loadVar T q).run P W = .ok v W) : (results fn tmps).run P W = .ok (.tuple #[v, u]) W := by
  unfold results
  rw [hf]
  rw [Array.getD_eq_getD_getElem?] at ht hu
  simp [ht, hu, asAddr, hl, Sem.run_bind, Sem.run_pure, Result.andThen_ok]

theorem rh_bad {f : Nat → Int} {a e d : Nat} {c p : Int} (h : hdC f a e d = (c, p)) (hc : c ≠ 0) : rhV f a e d = .tuple #[.agg noH.toArray, fltV c p] := by
  unfold rhV; rw [h, if_neg hc]

theorem rh_ok {f : Nat → Int} {a e d : Nat} (h : (hdC f a e d).1 = 0) : rhV f a e d = .tuple #[.agg (hdV (hdOf f a e d)).toArray, .nilIface] := by
  unfold rhV; rw [if_pos h]

theorem lnR_small {f : Nat → Int} {a e : Nat} (hb : ∀ i, i < e → 0 ≤ f i ∧ f i < 256) : (lnR f a e).1 ≤ 70000 ∧ (lnR f a e).2.1 ≤ a + 4 := by
  unfold lnR
  by_cases c1 : e ≤ a + 1
  · rw [if_pos c1]; simp
  rw [if_neg c1]
  have b1 := hb (a + 1) (by omega)
  by_cases c2 : f (a + 1) < 128
  · rw [if_pos c2]; constructor
    · show (f (a + 1)).toNat ≤ 70000; omega
    · show a + 2 ≤ a + 4; omega
  rw [if_neg c2]
  by_cases c3 : f (a + 1) = 128 ∨ 130 < f (a + 1)
  · rw [if_pos c3]; simp
  rw [if_neg c3]
  by_cases c4 : (e : Int) ≤ a + 1 + (f (a + 1) - 128)
  · rw [if_pos c4]; simp
  rw [if_neg c4]
  have b2 := hb (a + 2) (by omega)
  by_cases c5 : f (a + 1) = 129
  · rw [if_pos c5]
    split
    · simp
    · constructor
      · show (f (a + 2)).toNat ≤ 70000; omega
      · show a + 3 ≤ a + 4; omega
  · rw [if_neg c5]
    have b3 := hb (a + 3) (by omega)
    split
    · simp
    · constructor
      · show (256 * f (a + 2) + f (a + 3)).toNat ≤ 70000; omega
      · exact Nat.le_refl _

set_option maxHeartbeats 3200000 in
set_option maxRecDepth 100000 in
theorem readHead_any (ad : Option Addr) (b off e cap : Nat) (f : Nat → Int) (a d : Nat) (w : World) (hs : BSeg w ad b off e f) (hb : ∀ i, i < e → 0 ≤ f i ∧ f i < 256) (hc : e ≤ cap) (hcap : cap ≤ 9223372036854775807) (hn : e ≤ 4000) (ha : a ≤ 4000) (hd : d ≤ 100) :
    Calls Tryd.prog 60 #[.slice ad e cap, .int .i64 (a : Int), .int .i64 (d : Int)] w fun en w' => en = .returned (rhV f a e d) ∧ Ext w w' := by
  have sto : ∀ (W : World) (L : List Value), L.length = 4 → (∀ v ∈ L, v.oneCell' = true) → Blk W w.heap.size noH → (Instr.storeAt 78 (.pointer (some ⟨w.heap.size, 0, none⟩)) (.agg L.toArray)).run Tryd.prog W = .ok () (putL w.heap.size 0 L W) := fun W L hl h1 hB => run_st (P := Tryd.prog) 78 L W (by rw [hl]; kernel_rfl) h1 w.heap.size 0 (Blk.st hB 0 _ (by rw [hl]; simp [noH]))
  have lod : ∀ (W : World) (L : List Value), L.length = 4 → Blk W w.heap.size noH → (loadVar 78 ⟨w.heap.size, 0, none⟩).run Tryd.prog (putL w.heap.size 0 L W) = .ok (.agg L.toArray) (putL w.heap.size 0 L W) := fun W L hl hB => run_ld (P := Tryd.prog) 78 L _ (by rw [hl]; kernel_rfl) (by kernel_rfl) w.heap.size 0 (Blk.ld (Blk.putAll1 hB (by rw [hl]; rfl)) 0 _ (fun j v h => by rw [Nat.zero_add]; exact h))
  obtain ⟨V, hV⟩ : ∃ V, w.alloc (.cells #[.int .i64 0, .int .i64 0, .int .i64 0, .int .i64 0] 78) = V := ⟨_, rfl⟩
  obtain ⟨B0, hE, -⟩ := box1 w noH 78 (w1 := V) (by rw [← hV]; exact Ext.refl _)
  have hputE : ∀ (W : World) (L : List Value), Ext w W → Ext w (putL w.heap.size 0 L W) := fun W L h => below_putL (Nat.le_refl _) L 0 _ h
  have HP := hide hputE
  have Hsto := hide sto
  have Hlod := hide lod
  have HBk := hide B0
  have HE := hide hE
  have hs1 := hs.of_all hE
  clear sto lod hputE B0 hE hs
  have fin : Hid True := trivial
  by_cases c1 : e ≤ a
  · have hh : hdC f a e d = (2, (a : Int)) := by unfold hdC; rw [if_pos c1]
    rw [rh_bad hh (by omega)]
    have g1 : (e : Int) ≤ (a : Int) := by omega
    have hst := Hsto.out V noH rfl (by simp [noH, Value.oneCell']) HBk.out
    have hld := Hlod.out V noH rfl HBk.out
    have HX := hide (HP.out V noH HE.out)
    go_enter Tryd.func60, Tryd.ntmps60
    go_wp2_with (refine wpList_st (by first | rfl | simp [Region.wanted, yielded]) 78 _ _ rfl _ rfl _ rfl _ hst ?_)
    refine bodyPost_ret (v := .tuple #[.agg noH.toArray, fltV 2 a]) (results_ct Tryd.results60 rfl rfl hld) rfl ?_
    exact ⟨rfl, HX.out⟩
  obtain rfl := hs1.at' (by omega)
  have k1 := hs1.cell a (by omega)
  have b1 := hb a (by omega)
  have g1 : ¬ (e : Int) ≤ (a : Int) := by omega
  have g2 : (a : Int) < (e : Int) := by omega
  have HTg : Hid (∀ W, Calls Tryd.prog 56 #[.int .i64 (f a)] W fun en w' => en = .returned (.bool (decide (f a % 32 ≠ 31))) ∧ w' = W) := fun W => tagOk_any (f a) W b1.1 (by omega)
  by_cases c2 : f a % 32 = 31
  · have hh : hdC f a e d = (3, (a : Int)) := by unfold hdC; rw [if_neg c1, if_pos c2]
    rw [rh_bad hh (by omega)]
    have e0 : decide (f a % 32 ≠ 31) = false := by simp [c2]
    rw [e0] at HTg
    clear hb hs1 e0 c2 hh
    generalize f a = x at *
    have hst := Hsto.out V noH rfl (by simp [noH, Value.oneCell']) HBk.out
    have hld := Hlod.out V noH rfl HBk.out
    have HX := hide (HP.out V noH HE.out)
    go_enter Tryd.func60, Tryd.ntmps60
    go_wp2_with fail
    refine (HTg.out _).mono ?_
    rintro en w1 ⟨rfl, hw⟩
    obtain rfl := hw.symm
    clear hw
    go_wp2_with (refine wpList_st (by first | rfl | simp [Region.wanted, yielded]) 78 _ _ rfl _ rfl _ rfl _ hst ?_)
    refine bodyPost_ret (v := .tuple #[.agg noH.toArray, fltV 3 a]) (results_ct Tryd.results60 rfl rfl hld) rfl ?_
    exact ⟨rfl, HX.out⟩
  have e0 : decide (f a % 32 ≠ 31) = true := by simp [c2]
  rw [e0] at HTg
  clear e0
  by_cases c3 : 12 < d
  · have hh : hdC f a e d = (6, (a : Int)) := by unfold hdC; rw [if_neg c1, if_neg c2, if_pos c3]
    rw [rh_bad hh (by omega)]
    have g3 : (12 : Int) < (d : Int) := by omega
    clear hb hs1 c2 hh
    generalize f a = x at *
    have hst := Hsto.out V noH rfl (by simp [noH, Value.oneCell']) HBk.out
    have hld := Hlod.out V noH rfl HBk.out
    have HX := hide (HP.out V noH HE.out)
    go_enter Tryd.func60, Tryd.ntmps60
    go_wp2_with fail
    refine (HTg.out _).mono ?_
    rintro en w1 ⟨rfl, hw⟩
    obtain rfl := hw.symm
    clear hw
    go_wp2_with (refine wpList_st (by first | rfl | simp [Region.wanted, yielded]) 78 _ _ rfl _ rfl _ rfl _ hst ?_)
    refine bodyPost_ret (v := .tuple #[.agg noH.toArray, fltV 6 a]) (results_ct Tryd.results60 rfl rfl hld) rfl ?_
    exact ⟨rfl, HX.out⟩
  have g3 : ¬ (12 : Int) < (d : Int) := by omega
  have HLn := hide (readLength_any (some ⟨b, off, none⟩) b off e cap f a V hs1 hb hc hcap hn ha)
  have HwV : Hid (w.heap.size < V.heap.size) := hide (Blk.lt HBk.out (by simp [noH]))
  have hnf := ne_nil_flt
  by_cases c4 : (lnR f a e).2.2 = 2
  · have hh : hdC f a e d = (2, (a : Int)) := by unfold hdC; rw [if_neg c1, if_neg c2, if_neg c3, if_pos c4]
    rw [rh_bad hh (by omega)]
    have hl : rlV f a e = .tuple #[.int .i64 0, .int .i64 0, .iface 50 (.agg #[.int .i64 2, .int .i64 (a : Int)])] := by unfold rlV; rw [if_neg (by omega), if_pos c4]; rfl
    rw [hl] at HLn
    clear hb hs1 c2 hh c4 hl
    generalize f a = x at *
    go_enter Tryd.func60, Tryd.ntmps60
    go_wp2_with fail
    refine (HTg.out _).mono ?_
    rintro en w1 ⟨rfl, hw⟩
    obtain rfl := hw.symm
    clear hw
    go_wp2_with fail
    refine HLn.out.mono ?_
    rintro en w2 ⟨rfl, hE2⟩
    replace HBk := hide (Blk.ext HBk.out hE2 HwV.out)
    replace HE := hide (HE.out.trans hE2)
    clear hE2 HLn
    have hst := Hsto.out w2 noH rfl (by simp [noH, Value.oneCell']) HBk.out
    have hld := Hlod.out w2 noH rfl HBk.out
    have HX := hide (HP.out w2 noH HE.out)
    go_wp2_with (refine wpList_st (by first | rfl | simp [Region.wanted, yielded]) 78 _ _ rfl _ rfl _ rfl _ hst ?_)
    refine bodyPost_ret (v := .tuple #[.agg noH.toArray, fltV 2 a]) (results_ct Tryd.results60 rfl rfl hld) rfl ?_
    exact ⟨rfl, HX.out⟩
  by_cases c5 : (lnR f a e).2.2 = 4
  · have hh : hdC f a e d = (4, (a : Int) + 1) := by unfold hdC; rw [if_neg c1, if_neg c2, if_neg c3, if_neg c4, if_pos c5]
    rw [rh_bad hh (by omega)]
    have hl : rlV f a e = .tuple #[.int .i64 0, .int .i64 0, .iface 50 (.agg #[.int .i64 4, .int .i64 ((a : Int) + 1)])] := by unfold rlV; rw [if_neg (by omega), if_neg c4]; rfl
    rw [hl] at HLn
    clear hb hs1 c2 hh c4 c5 hl
    generalize f a = x at *
    go_enter Tryd.func60, Tryd.ntmps60
    go_wp2_with fail
    refine (HTg.out _).mono ?_
    rintro en w1 ⟨rfl, hw⟩
    obtain rfl := hw.symm
    clear hw
    go_wp2_with fail
    refine HLn.out.mono ?_
    rintro en w2 ⟨rfl, hE2⟩
    replace HBk := hide (Blk.ext HBk.out hE2 HwV.out)
    replace HE := hide (HE.out.trans hE2)
    clear hE2 HLn
    have hst := Hsto.out w2 noH rfl (by simp [noH, Value.oneCell']) HBk.out
    have hld := Hlod.out w2 noH rfl HBk.out
    have HX := hide (HP.out w2 noH HE.out)
    go_wp2_with (refine wpList_st (by first | rfl | simp [Region.wanted, yielded]) 78 _ _ rfl _ rfl _ rfl _ hst ?_)
    refine bodyPost_ret (v := .tuple #[.agg noH.toArray, fltV 4 ((a : Int) + 1)]) (results_ct Tryd.results60 rfl rfl hld) rfl ?_
    exact ⟨rfl, HX.out⟩
  have hw0 := lnR_well c4 c5
  have hl : rlV f a e = .tuple #[.int .i64 ((lnR f a e).1 : Int), .int .i64 ((lnR f a e).2.1 : Int), .nilIface] := by unfold rlV; rw [if_pos hw0.1]
  rw [hl] at HLn
  have hlb := lnR_small (f := f) (a := a) (e := e) hb
  by_cases c6 : e < (lnR f a e).2.1 + (lnR f a e).1
  · have hh : hdC f a e d = (2, (a : Int)) := by unfold hdC; rw [if_neg c1, if_neg c2, if_neg c3, if_neg c4, if_neg c5, if_pos c6]
    rw [rh_bad hh (by omega)]
    clear hb hs1 c2 hh c4 c5 hl hw0
    generalize f a = x at *
    generalize (lnR f a e).1 = ln at *
    generalize (lnR f a e).2.1 = st at *
    have w3 : wrap64 ((e : Int) - (st : Int)) = (e : Int) - (st : Int) := by unfold wrap64; omega
    have g5 : (e : Int) - (st : Int) < (ln : Int) := by omega
    go_enter Tryd.func60, Tryd.ntmps60
    go_wp2_with fail
    refine (HTg.out _).mono ?_
    rintro en w1 ⟨rfl, hw⟩
    obtain rfl := hw.symm
    clear hw
    go_wp2_with fail
    refine HLn.out.mono ?_
    rintro en w2 ⟨rfl, hE2⟩
    replace HBk := hide (Blk.ext HBk.out hE2 HwV.out)
    replace HE := hide (HE.out.trans hE2)
    clear hE2 HLn
    have hst := Hsto.out w2 noH rfl (by simp [noH, Value.oneCell']) HBk.out
    have hld := Hlod.out w2 noH rfl HBk.out
    have HX := hide (HP.out w2 noH HE.out)
    go_wp2_with (refine wpList_st (by first | rfl | simp [Region.wanted, yielded]) 78 _ _ rfl _ rfl _ rfl _ hst ?_)
    refine bodyPost_ret (v := .tuple #[.agg noH.toArray, fltV 2 a]) (results_ct Tryd.results60 rfl rfl hld) rfl ?_
    exact ⟨rfl, HX.out⟩
  have hh : (hdC f a e d).1 = 0 := by unfold hdC; rw [if_neg c1, if_neg c2, if_neg c3, if_neg c4, if_neg c5, if_neg c6]
  rw [rh_ok hh]
  have HV : Hid (hdV (hdOf f a e d) = [.int .i64 (f a), .int .i64 ((lnR f a e).2.1 : Int), .int .i64 ((lnR f a e).2.1 + (lnR f a e).1 : Int), .int .i64 (d : Int)]) := rfl
  generalize hdV (hdOf f a e d) = HVv at *
  clear hb hs1 c2 hh c4 c5 hl hw0
  generalize f a = x at *
  generalize (lnR f a e).1 = ln at *
  generalize (lnR f a e).2.1 = st at *
  have w3 : wrap64 ((e : Int) - (st : Int)) = (e : Int) - (st : Int) := by unfold wrap64; omega
  have g5 : ¬ (e : Int) - (st : Int) < (ln : Int) := by omega
  have w4 : wrap64 ((st : Int) + (ln : Int)) = (st : Int) + (ln : Int) := by unfold wrap64; omega
  go_enter Tryd.func60, Tryd.ntmps60
  go_wp2_with fail
  refine (HTg.out _).mono ?_
  rintro en w1 ⟨rfl, hw⟩
  obtain rfl := hw.symm
  clear hw
  go_wp2_with fail
  refine HLn.out.mono ?_
  rintro en w2 ⟨rfl, hE2⟩
  replace HBk := hide (Blk.ext HBk.out hE2 HwV.out)
  replace HE := hide (HE.out.trans hE2)
  clear hE2 HLn
  have hst := Hsto.out w2 [.int .i64 x, .int .i64 (st : Int), .int .i64 ((st : Int) + (ln : Int)), .int .i64 (d : Int)] rfl (by simp [Value.oneCell']) HBk.out
  have hld := Hlod.out w2 [.int .i64 x, .int .i64 (st : Int), .int .i64 ((st : Int) + (ln : Int)), .int .i64 (d : Int)] rfl HBk.out
  have HX := hide (HP.out w2 [.int .i64 x, .int .i64 (st : Int), .int .i64 ((st : Int) + (ln : Int)), .int .i64 (d : Int)] HE.out)
  go_wp2_with (refine wpList_st (by first | rfl | simp [Region.wanted, yielded]) 78 _ _ rfl _ rfl _ rfl _ hst ?_)
  refine bodyPost_ret (v := .tuple #[.agg [.int .i64 x, .int .i64 (st : Int), .int .i64 ((st : Int) + (ln : Int)), .int .i64 (d : Int)].toArray, .nilIface]) (results_ct Tryd.results60 rfl rfl hld) rfl ?_
  exact ⟨by rw [HV.out], HX.out⟩
end

section
set_option linter.unusedVariables false
set_option linter.unusedSimpArgs false

open Go.RowKit

/-- Lists of bytes as values. -/
def bl (L : List Int) : List Value := L.map (.int .u8 ·)

theorem bl_byts (L : List Int) : bl L = byts (fun i => L.getD i 0) L.length := by
  unfold bl byts
  apply List.ext_getElem
  · simp
  · intro i h1 h2
    simp at h1
    simp [h1]

theorem byts_bl (f : Nat → Int) (n : Nat) : byts f n = bl ((List.range n).map f) := by
  unfold bl byts
  simp

theorem bl_app (A B : List Int) : bl A ++ bl B = bl (A ++ B) := by unfold bl; simp

/-- The bytes of an item's body, of a length. -/
def boL (x : It) : List Int := (List.range x.len).map x.f

def lgL (n : Nat) : List Int := (List.range (lgN n)).map (lgF n)

/-- The bytes of the first k kids. -/
def wrB (g : Nat → List Int) (f : Nat → Int) (s : Int) : Nat → List Int
  | 0 => []
  | k + 1 => wrB g f s k ++ g (kidsF f k s).toNat

/-- The bytes of an item. -/
def wrF (x : Nat → It) (n : Nat) : Nat → Nat → List Int
  | 0, _ => []
  | m + 1, i => (x i).tag :: (lgL (boL (x i) ++ wrB (wrF x n m) (endF (fun j => (x j).kid) n m) ((i : Int) + 1) (x i).kid.toNat).length ++ (boL (x i) ++ wrB (wrF x n m) (endF (fun j => (x j).kid) n m) ((i : Int) + 1) (x i).kid.toNat))

theorem wrB_le (g : Nat → List Int) (f : Nat → Int) (s : Int) {k K : Nat} (h : k ≤ K) : (wrB g f s k).length ≤ (wrB g f s K).length := by
  induction K with
  | zero =>
    obtain rfl : k = 0 := by omega
    exact Nat.le_refl _
  | succ K ih =>
    by_cases e : k = K + 1
    · subst e; exact Nat.le_refl _
    · have := ih (by omega)
      rw [wrB, List.length_append]
      omega

theorem kids_ok {f : Nat → Int} {s : Int} {K : Nat} (h : 0 ≤ kidsF f K s) {k : Nat} (hk : k ≤ K) : 0 ≤ kidsF f k s := by
  by_cases e : k = K
  · subst e; exact h
  · by_cases c : kidsF f k s < 0
    · have := kidsF_neg c K (by omega); omega
    · omega

theorem l1BytesD_any (a : Option Addr) (b off n cap : Nat) (f : Nat → Int) (w : World) (hB : BSeg w a b off n f) (hn : n ≤ 1099511627776) : Calls Tryd.prog 44 #[.slice a n cap] w fun e w' => GivesR w n f e w' := by
  have hown := World.ownsRow_made (base := w.heap.size) (e := 5) (size := 1) w #[] 0 (Nat.le_refl _) (by simp) rfl
  have Hb := hide (hB.of_all (Ext.alloc w (.cells #[] 5)))
  have Ho := hide hown
  clear hB hown
  go_enter Tryd.func44, Tryd.ntmps44
  go_wp2_with (at_builtin; refine wpList_append_bs rfl _ _ rfl w.heap.size _ 0 [] rfl Ho.out _ b off n cap f rfl Hb.out (by omega) (by simp) ?_)
  intro v' w1 h1 h2
  have HO := hide h1
  clear h1 Ho Hb
  have HE : Hid (Ext w w1) := hide (((Below.refl _ _).alloc (Nat.le_refl _) _).trans h2)
  clear h2
  go_wp2
  go_ret
  have h3 := HO.out
  first | exact ⟨_, rfl, h3, HE.out⟩ | (rw [Nat.zero_add] at h3; exact ⟨_, rfl, h3, HE.out⟩)

theorem endF_lt {kid : Nat → Int} {n m z : Nat} (h : 0 ≤ endF kid n m z) : z < n := by
  cases m with
  | zero => have : endF kid n 0 z = -1 := rfl; omega
  | succ m =>
    rw [endF] at h
    by_cases c : n ≤ z
    · rw [if_pos c] at h; omega
    · omega

theorem Grw.of_belowW {X : Nat → Prop} {B : Nat} {a b : World} (h : Below B a b) (hX : ∀ k, B ≤ k → X k) : Grw X a b :=
  ⟨h.os, h.tape, h.output, h.size, fun k hk hn => h.block k (by
    by_cases hh : k < B
    · exact hh
    · exact absurd (hX k (by omega)) hn)⟩

/-- The answer: bytes of the call's own and the place behind. -/
def GivesWr (W : World) (L : List Int) (e : Int) (en : Ending) (w' : World) : Prop := ∃ v, en = .returned (.tuple #[v, .int .i64 e]) ∧ w'.ownsRow W.heap.size 5 1 v L.length (bl L) ∧ Ext W w'

set_option maxHeartbeats 3200000 in
set_option maxRecDepth 100000 in
theorem l7Write_any (a : Option Addr) (b off n cap : Nat) (x : Nat → It) (w : World) (hs : ISeg w a b off n x) (hn : n ≤ 1048576) (hkid : ∀ i, i < n → 0 ≤ (x i).kid ∧ (x i).kid ≤ 1048576) (htag : ∀ i, i < n → 0 ≤ (x i).tag ∧ (x i).tag ≤ 255) :
    ∀ (m i : Nat) (W : World), i < n → 0 ≤ endF (fun j => (x j).kid) n m i → (wrF x n m i).length ≤ 60000 → Ext w W →
    Calls Tryd.prog 58 #[.slice a n cap, .int .i64 i] W fun e w' => GivesWr W (wrF x n m i) (endF (fun j => (x j).kid) n m i) e w'
  | 0, i, W, hi, h0, hl, hE => by
    have : endF (fun j => (x j).kid) n 0 i = -1 := rfl
    omega
  | m + 1, i, W, hi, h0, hl, hE => by
    have e1 : endF (fun j => (x j).kid) n (m + 1) i = kidsF (endF (fun j => (x j).kid) n m) (x i).kid.toNat (i + 1) := by rw [endF]; rw [if_neg (by omega)]
    have e2 : wrF x n (m + 1) i = (x i).tag :: (lgL (boL (x i) ++ wrB (wrF x n m) (endF (fun j => (x j).kid) n m) ((i : Int) + 1) (x i).kid.toNat).length ++ (boL (x i) ++ wrB (wrF x n m) (endF (fun j => (x j).kid) n m) ((i : Int) + 1) (x i).kid.toNat)) := rfl
    rw [e1] at h0
    rw [e2] at hl
    rw [e1, e2]
    have IH := hide (fun (i : Nat) (W : World) (hi : i < n) (h0 : 0 ≤ endF (fun j => (x j).kid) n m i) (hl : (wrF x n m i).length ≤ 60000) (hE : Ext w W) => l7Write_any a b off n cap x w hs hn hkid htag m i W hi h0 hl hE)
    have hr := endF_range (fun j => (x j).kid) n m
    have Hn : Hid (∀ z, 0 ≤ endF (fun j => (x j).kid) n m z → z < n) := fun z h => endF_lt h
    generalize endF (fun j => (x j).kid) n m = f at *
    generalize wrF x n m = g at *
    clear e1 e2
    obtain rfl := hs.at' (by omega)
    obtain ⟨hk0, hk1⟩ := hkid i hi
    obtain ⟨ht0, ht1⟩ := htag i hi
    obtain ⟨K, hK⟩ : ∃ K : Nat, (x i).kid = K := ⟨(x i).kid.toNat, by omega⟩
    rw [show (x i).kid.toNat = K by omega] at h0 hl ⊢
    have HS := hide hs
    have HE := hide hE
    have HR := hide hr
    have H0 := hide h0
    have hl2 : (boL (x i) ++ wrB g f ((i : Int) + 1) K).length ≤ 60000 := by
      rw [List.length_cons, List.length_append] at hl
      omega
    have HL := hide hl2
    have hsW := hs.of_all hE
    have c0 := hsW.c0 i hi
    have c1 := hsW.c1 i hi
    have c2 := hsW.c2 i hi
    rw [hK] at c2
    have HBd := hide (hsW.body i hi)
    clear hs hE hr hkid htag h0 hl hl2 hsW
    have hlen : (x i).len ≤ 60000 := by
      have := HL.out
      rw [List.length_append] at this
      simp only [boL, List.length_map, List.length_range] at this
      omega
    have HY := hide (l1BytesD_any (x i).ad (x i).blk (x i).off (x i).len (x i).cap (x i).f W HBd.out (by omega))
    unfold GivesR at HY
    rw [byts_bl] at HY
    have hin : (i : Int) < (n : Int) := by omega
    have hbl : (boL (x i)).length = (x i).len := by simp [boL]
    rw [show (List.range (x i).len).map (x i).f = boL (x i) from rfl, ← hbl] at HY
    have Hbl := hide hbl
    generalize hBO : boL (x i) = BO at *
    generalize hTg : (x i).tag = tag at *
    have HTg := hide hTg
    clear hTg
    clear HBd hlen hbl
    go_enter Tryd.func58, Tryd.ntmps58
    go_wp2_with fail
    rw [← Hbl.out]
    refine HY.out.mono ?_
    rintro e w1 ⟨v, rfl, hO, hE1⟩
    have HO := hide hO
    have HE1 := hide hE1
    clear hO hE1 HY
    go_wp2_with fail
    clear c0 c1 c2
    go_loopw [6, 7, 8] (fun v nx kv wr => ∃ k : Nat, k ≤ K ∧ kv = .int .i64 (k : Int) ∧ nx = .int .i64 (kidsF f k (i + 1)) ∧ wr.ownsRow W.heap.size 5 1 v (BO ++ wrB g f ((i : Int) + 1) k).length (bl (BO ++ wrB g f ((i : Int) + 1) k)) ∧ Ext W wr) (fun _ _ kv _ => K - (intOf kv).toNat)
    case atStart => exact ⟨0, Nat.zero_le _, rfl, rfl, by rw [wrB, List.append_nil]; exact HO.out, HE1.out⟩
    case round =>
      clear HO HE1
      obtain ⟨k, hk, rfl, rfl, hO, hE1⟩ := hrel
      have hz0 := kids_ok H0.out hk
      obtain ⟨z, hz⟩ : ∃ z : Nat, kidsF f k (i + 1) = z := ⟨(kidsF f k (i + 1)).toNat, by omega⟩
      have c0 := (HS.out.of_all (HE.out.trans hE1)).c0 i hi
      rw [HTg.out] at c0
      have c2 := (HS.out.of_all (HE.out.trans hE1)).c2 i hi
      rw [hK] at c2
      have HE1 := hide hE1
      have HO := hide hO
      by_cases hlt : k < K
      · have hlt' : (k : Int) < (K : Int) := by omega
        have hnx : kidsF f (k + 1) (i + 1) = f z := by
          show (if kidsF f k (i + 1) < 0 then -1 else f (kidsF f k (i + 1)).toNat) = f z
          rw [hz, if_neg (by omega), Int.toNat_natCast]
        have hfz : 0 ≤ f z := by rw [← hnx]; exact kids_ok H0.out hlt
        have hst : BO ++ wrB g f ((i : Int) + 1) (k + 1) = (BO ++ wrB g f ((i : Int) + 1) k) ++ g z := by
          rw [wrB, hz, Int.toNat_natCast, List.append_assoc]
        have hle : (BO ++ wrB g f ((i : Int) + 1) (k + 1)).length ≤ 60000 := by
          have h1 := wrB_le g f ((i : Int) + 1) (show k + 1 ≤ K from hlt)
          have h2 := HL.out
          rw [List.length_append] at h2 ⊢
          omega
        rw [hst, List.length_append] at hle
        have HC := hide (IH.out z wr (Hn.out z hfz) hfz (by omega) (HE.out.trans HE1.out))
        rw [hz]
        have Hnx := hide hnx
        have Hst := hide hst
        generalize BO ++ wrB g f ((i : Int) + 1) k = A at *
        generalize g z = Gz at *
        generalize f z = fz at *
        clear hO hE1 hz0 hz hnx hst hfz c0
        go_wp2_with fail
        refine HC.out.mono ?_
        rintro e w3 ⟨v3, rfl, hO3, hE3⟩
        obtain ⟨G2, hG2⟩ : ∃ G2 : Nat → Int, bl Gz = byts G2 Gz.length := ⟨_, bl_byts Gz⟩
        rw [hG2] at hO3
        have HG2 := hide hG2
        obtain ⟨ya, yg, yc, rfl, hyg, hyn, hyc, hyB⟩ := owns_seg hO3
        have HX := hide hyB.toBSeg
        have HO2 := hide (owns_ext' HO.out hE3)
        have HE3 := hide (HE1.out.trans hE3)
        have hsz : W.heap.size ≤ w3.heap.size := Below.size HE3.out
        clear hO3 hE3 hyB HC hG2
        go_wp2_with (at_builtin; refine wpList_append_bs rfl _ _ rfl W.heap.size _ A.length (bl A) rfl HO2.out _ yg 0 Gz.length yc G2 rfl HX.out (by omega) hsz ?_)
        intro v5 w5 hO5 hb5
        rw [← HG2.out, bl_app, ← List.length_append] at hO5
        have HO5 := hide hO5
        have HE5 := hide (Below.trans HE3.out hb5)
        obtain ⟨za, zg, zc, rfl⟩ : ∃ za zg zc, v5 = .slice za (A ++ Gz).length zc := by
          rw [bl_byts] at hO5
          obtain ⟨a1, g1, c1, rfl, -⟩ := owns_seg hO5
          exact ⟨a1, g1, c1, rfl⟩
        clear hO5 hb5 HX HO2
        go_wp2
        go_roundw
        case rel => exact ⟨k + 1, hlt, by go_num, by rw [Hnx.out], by rw [Hst.out]; exact HO5.out, HE5.out⟩
        case measure => simp [intOf]; omega
      · obtain rfl : k = K := by omega
        have hlt' : ¬ (k : Int) < (k : Int) := by omega
        have hle := HL.out
        rw [hz]
        have Hz := hide hz
        generalize hAA : BO ++ wrB g f ((i : Int) + 1) k = A at *
        have HAA := hide hAA
        clear hAA
        have HLn := hide (fun W => l7Length_any (A.length : Int) W (by omega) (by omega))
        obtain ⟨A2, hA2⟩ : ∃ A2 : Nat → Int, bl A = byts A2 A.length := ⟨_, bl_byts A⟩
        have hO' := hO
        rw [hA2] at hO'
        obtain ⟨va, vg, vc, rfl, hvg, hvn, hvc, hvB⟩ := owns_seg hO'
        have HVB := hide hvB.toBSeg
        have HA2 := hide hA2
        clear hvB hO' hA2
        clear hO hE1 hz0 hz
        go_wp2_with fail
        have hbW : b < W.heap.size := Nat.lt_of_lt_of_le (HS.out.lt (by omega)) (Below.size HE.out)
        have c0' := fun p : ReC (fun q => wr.heap.size ≤ q) wr => cell_reC c0 (by show ¬ wr.heap.size ≤ b; have := Below.size HE1.out; omega) p
        have ht8 : IntKind.u8.wrap tag = tag := by rw [IntKind.wrap_u8]; omega
        have x1 : ∀ q, wr.heap.size ≤ q → wr.heap.size ≤ q := fun _ h => h
        refine anyK_begin (fun q => wr.heap.size ≤ q) 12 rfl (by kernel_rfl) ?_
        refine anyK_take 0 6 6 rfl (by decide) (by kernel_rfl) (fun _ _ d _ _ h => by cases d <;> exact h) ?_
        repeat (refine headC_step (fun K hK => ?_); go_simp; first | (refine hK _ ?_; clear hK K) | (apply Exists.intro; refine ⟨fun _ => ?_, hK _ ?_⟩; (fail); clear hK K))
        refine headC_nil ?_
        refine anyK_take 7 2 4 rfl (by decide) (by kernel_rfl) (fun _ _ d _ _ h => by cases d <;> exact h) ?_
        repeat (refine headC_step (fun K hK => ?_); go_simp; first | (refine hK _ ?_; clear hK K) | (apply Exists.intro; refine ⟨fun _ => ?_, hK _ ?_⟩; (fail); clear hK K))
        refine headC_nil ?_
        clear c0' c0 c2
        refine anyK_two 6 9 (by kernel_rfl) ?_ ?_
        · skip
          refine stepK_run rfl ?_
          intro w3 h3 K2 hK2
          go_simp
          refine hK2 _ _ (.of_ext (h3.trans (Ext.alloc _ _))) ?_
          clear hK2 K2
          have HTw3 := hide (owns_mono (owns_one8 w3 tag) (show wr.heap.size ≤ w3.heap.size from Below.size h3))
          have Ew3 := hide (h3.trans (Ext.alloc w3 (.cells #[.int .u8 tag] 5)))
          generalize w3.alloc (.cells #[.int .u8 tag] 5) = w4 at *
          generalize w3.heap.size = SL at *
          clear h3
          refine anyK_one 9 (by kernel_rfl) ?_
          refine stepK_run rfl ?_
          intro w5 h5 K2 hK2
          go_simp
          refine (HLn.out w5).mono ?_
          rintro e wE ⟨vl, rfl, hOl, hEl⟩
          obtain ⟨ya, yg, yc, rfl, hyg, hyn, hyc, hyB⟩ := owns_seg hOl
          have HXwE := hide hyB.toBSeg
          have HOE := hide (owns_ext' HTw3.out (h5.trans hEl))
          have EE := hide ((Ew3.out.trans h5).trans hEl)
          have HXE := HXwE
          refine hK2 _ _ (.of_ext EE.out) ?_
          clear hK2 K2 HTw3 Ew3 h5 hEl hOl hyB hyg
          refine anyK_one 10 (by kernel_rfl) ?_
          refine stepK_run rfl ?_
          intro w6 h6 K2 hK2
          have HO6 := hide (owns_ext' HOE.out h6)
          have HX6 := hide (HXE.out.of_all h6)
          have E6 := hide (EE.out.trans h6)
          have hB6 : wr.heap.size ≤ w6.heap.size := Below.size E6.out
          rw [if_pos (show _ = true by kernel_rfl)]
          refine wp_append_bs _ _ rfl wr.heap.size _ 1 _ rfl HO6.out _ yg 0 (lgN (A.length : Int)) yc (lgF (A.length : Int)) rfl HX6.out (by have := (lgN_le (n := (A.length : Int)) (by omega) (by omega)).2; omega) hB6 ?_
          intro v7 w7 hO7 hb7
          refine hK2 _ _ ((Grw.of_ext E6.out).trans (Grw.of_belowW hb7 x1)) ?_
          clear hK2 K2
          have HO7 : Hid (w7.ownsRow wr.heap.size 5 1 v7 (tag :: lgL A.length).length (bl (tag :: lgL A.length))) := by
            have e : byts (fun _ => tag) 1 ++ byts (lgF (A.length : Int)) (lgN (A.length : Int)) = bl (tag :: lgL A.length) := by
              rw [byts_bl (lgF (A.length : Int))]
              rfl
            have e2 : (tag :: lgL A.length).length = 1 + lgN (A.length : Int) := by simp [lgL]; omega
            rw [e2, ← e]
            exact hO7
          have HE7 : Hid (Ext W w7) := hide (Below.trans (HE1.out.trans E6.out) (hb7.mono (Below.size HE1.out)))
          have HV7 := hide ((HVB.out.of_all E6.out).below hb7 (fun h => HVB.out.lt h))
          have Hb7 := hide hb7
          clear hO7 hb7 HO6 HX6 HOE HXE EE h6 hB6
          refine anyK_take 11 1 0 rfl (by decide) (by kernel_rfl) (fun _ _ d _ _ h => by cases d <;> exact h) ?_
          repeat (refine headC_step (fun K hK => ?_); go_simp; first | (refine hK _ ?_; clear hK K) | (apply Exists.intro; refine ⟨fun _ => ?_, hK _ ?_⟩; (fail); clear hK K))
          refine headC_nil ?_
          refine anyK_done (by kernel_rfl) ?_ 0
          intro w8 h8
          have HO8 := hide (owns_ext' HO7.out h8)
          have HV8 := hide (HV7.out.of_all h8)
          have HE8 := hide (HE7.out.trans h8)
          obtain ⟨T2, hT2⟩ : ∃ T2 : Nat → Int, bl (tag :: lgL A.length) = byts T2 (tag :: lgL A.length).length := ⟨_, bl_byts _⟩
          have hO8 := HO8.out
          rw [hT2] at hO8
          obtain ⟨oa, og, oc, rfl, -, -, -, -⟩ := owns_seg hO8
          have hB8 : wr.heap.size ≤ w8.heap.size := by have h1 := Below.size Hb7.out; have h2 := Below.size E6.out; have h3 := Below.size h8; omega
          have hcn : (tag :: lgL A.length).length ≤ 20 := by have := (lgN_le (n := (A.length : Int)) (by omega) (by omega)).2; simp [lgL]; omega
          clear hT2 hO8 HO7 HV7 HE7 Hb7 h8
          generalize hTL : tag :: lgL A.length = TL at *
          have HTL := hide hTL
          clear hTL
          go_wp2_with (at_builtin; refine wpList_append_bs rfl _ _ rfl wr.heap.size _ TL.length (bl TL) rfl HO8.out _ vg 0 A.length vc A2 rfl HV8.out (by omega) hB8 ?_)
          intro v9 w9 hO9 hb9
          rw [← HA2.out, bl_app, ← List.length_append] at hO9
          have HF : Hid (GivesWr W (TL ++ A) (z : Int) (.returned (.tuple #[v9, .int .i64 (z : Int)])) w9) := ⟨v9, rfl, owns_mono hO9 (Below.size HE1.out), Below.trans HE8.out (hb9.mono (Below.size HE1.out))⟩
          clear hO9 hb9 HO8 HV8 HE8
          go_wp2
          go_ret2
          rw [HAA.out, Hz.out, show tag :: (lgL A.length ++ A) = TL ++ A by rw [← HTL.out]; rfl]
          exact HF.out
        · skip
          refine stepK_run rfl ?_
          intro w3 h3 K2 hK2
          go_simp
          refine (HLn.out w3).mono ?_
          rintro e w4 ⟨vl, rfl, hOl, hEl⟩
          obtain ⟨ya, yg, yc, rfl, hyg, hyn, hyc, hyB⟩ := owns_seg hOl
          have HXw4 := hide hyB.toBSeg
          refine hK2 _ _ (.of_ext (h3.trans hEl)) ?_
          clear hK2 K2
          have E4 := hide (h3.trans hEl)
          clear h3 hEl hOl hyB hyg
          refine anyK_one 6 (by kernel_rfl) ?_
          refine stepK_run rfl ?_
          intro w5 h5 K2 hK2
          go_simp
          refine hK2 _ _ (.of_ext ((E4.out.trans h5).trans (Ext.alloc _ _))) ?_
          clear hK2 K2
          have HTw5 := hide (owns_mono (owns_one8 w5 tag) (show wr.heap.size ≤ w5.heap.size from Below.size (E4.out.trans h5)))
          have Ew5 := hide ((E4.out.trans h5).trans (Ext.alloc w5 (.cells #[.int .u8 tag] 5)))
          have HXE := hide ((HXw4.out.of_all h5).of_all (Ext.alloc w5 (.cells #[.int .u8 tag] 5)))
          have HOE := HTw5
          have EE := Ew5
          generalize w5.alloc (.cells #[.int .u8 tag] 5) = wE at *
          generalize w5.heap.size = SL at *
          clear h5 HTw5 Ew5 HXw4 E4
          refine anyK_one 10 (by kernel_rfl) ?_
          refine stepK_run rfl ?_
          intro w6 h6 K2 hK2
          have HO6 := hide (owns_ext' HOE.out h6)
          have HX6 := hide (HXE.out.of_all h6)
          have E6 := hide (EE.out.trans h6)
          have hB6 : wr.heap.size ≤ w6.heap.size := Below.size E6.out
          rw [if_pos (show _ = true by kernel_rfl)]
          refine wp_append_bs _ _ rfl wr.heap.size _ 1 _ rfl HO6.out _ yg 0 (lgN (A.length : Int)) yc (lgF (A.length : Int)) rfl HX6.out (by have := (lgN_le (n := (A.length : Int)) (by omega) (by omega)).2; omega) hB6 ?_
          intro v7 w7 hO7 hb7
          refine hK2 _ _ ((Grw.of_ext E6.out).trans (Grw.of_belowW hb7 x1)) ?_
          clear hK2 K2
          have HO7 : Hid (w7.ownsRow wr.heap.size 5 1 v7 (tag :: lgL A.length).length (bl (tag :: lgL A.length))) := by
            have e : byts (fun _ => tag) 1 ++ byts (lgF (A.length : Int)) (lgN (A.length : Int)) = bl (tag :: lgL A.length) := by
              rw [byts_bl (lgF (A.length : Int))]
              rfl
            have e2 : (tag :: lgL A.length).length = 1 + lgN (A.length : Int) := by simp [lgL]; omega
            rw [e2, ← e]
            exact hO7
          have HE7 : Hid (Ext W w7) := hide (Below.trans (HE1.out.trans E6.out) (hb7.mono (Below.size HE1.out)))
          have HV7 := hide ((HVB.out.of_all E6.out).below hb7 (fun h => HVB.out.lt h))
          have Hb7 := hide hb7
          clear hO7 hb7 HO6 HX6 HOE HXE EE h6 hB6
          refine anyK_take 11 1 0 rfl (by decide) (by kernel_rfl) (fun _ _ d _ _ h => by cases d <;> exact h) ?_
          repeat (refine headC_step (fun K hK => ?_); go_simp; first | (refine hK _ ?_; clear hK K) | (apply Exists.intro; refine ⟨fun _ => ?_, hK _ ?_⟩; (fail); clear hK K))
          refine headC_nil ?_
          refine anyK_done (by kernel_rfl) ?_ 0
          intro w8 h8
          have HO8 := hide (owns_ext' HO7.out h8)
          have HV8 := hide (HV7.out.of_all h8)
          have HE8 := hide (HE7.out.trans h8)
          obtain ⟨T2, hT2⟩ : ∃ T2 : Nat → Int, bl (tag :: lgL A.length) = byts T2 (tag :: lgL A.length).length := ⟨_, bl_byts _⟩
          have hO8 := HO8.out
          rw [hT2] at hO8
          obtain ⟨oa, og, oc, rfl, -, -, -, -⟩ := owns_seg hO8
          have hB8 : wr.heap.size ≤ w8.heap.size := by have h1 := Below.size Hb7.out; have h2 := Below.size E6.out; have h3 := Below.size h8; omega
          have hcn : (tag :: lgL A.length).length ≤ 20 := by have := (lgN_le (n := (A.length : Int)) (by omega) (by omega)).2; simp [lgL]; omega
          clear hT2 hO8 HO7 HV7 HE7 Hb7 h8
          generalize hTL : tag :: lgL A.length = TL at *
          have HTL := hide hTL
          clear hTL
          go_wp2_with (at_builtin; refine wpList_append_bs rfl _ _ rfl wr.heap.size _ TL.length (bl TL) rfl HO8.out _ vg 0 A.length vc A2 rfl HV8.out (by omega) hB8 ?_)
          intro v9 w9 hO9 hb9
          rw [← HA2.out, bl_app, ← List.length_append] at hO9
          have HF : Hid (GivesWr W (TL ++ A) (z : Int) (.returned (.tuple #[v9, .int .i64 (z : Int)])) w9) := ⟨v9, rfl, owns_mono hO9 (Below.size HE1.out), Below.trans HE8.out (hb9.mono (Below.size HE1.out))⟩
          clear hO9 hb9 HO8 HV8 HE8
          go_wp2
          go_ret2
          rw [HAA.out, Hz.out, show tag :: (lgL A.length ++ A) = TL ++ A by rw [← HTL.out]; rfl]
          exact HF.out
end

section
set_option linter.unusedVariables false
set_option linter.unusedSimpArgs false

open Go.RowKit

/-- A reader's fields. -/
def rrL (bs lv : Value) (c p : Int) : List Value := [bs, lv, .int .i64 c, .int .i64 p]

def rrZ : List Value := [.slice none 0 0, .slice none 0 0, .int .i64 0, .int .i64 0]
end

section
set_option linter.unusedVariables false
set_option linter.unusedSimpArgs false

open Go.RowKit

/-- What a call of the model's reader hands back. -/
def GivesRr (B : Nat) (w : World) (bs lv : Value) (R : Rdr) (L : List It) (e : Ending) (w' : World) : Prop :=
  ∃ la ln lc z, e = .returned (.tuple #[.agg (rrL bs (.slice la ln lc) R.code (if R.code = 0 then 0 else R.pl)).toArray, .int .i64 z]) ∧
    (R.code = 0 → z = (R.nx : Int) ∧ ((Value.slice la ln lc).ownBlock = lv.ownBlock ∨ ∃ q, (Value.slice la ln lc).ownBlock = some q ∧ w.heap.size ≤ q) ∧ ∃ M, LAcc B w' (.slice la ln lc) (L ++ M) ∧ M.map ct = R.its ∧ ∀ t ∈ M, 0 < t.len → w.heap.size ≤ t.blk) ∧ w.grownBy w' lv.ownBlock

theorem GivesRr.bad {B : Nat} {w w' : World} {bs : Value} {la : Option Addr} {ln lc : Nat} {R : Rdr} {L : List It} {c p z : Int} (h : R.code = c) (hp : R.pl = p) (hc : c ≠ 0) (hE : Ext w w') :
    GivesRr B w bs (.slice la ln lc) R L (.returned (.tuple #[.agg (rrL bs (.slice la ln lc) c p).toArray, .int .i64 z])) w' :=
  ⟨la, ln, lc, z, by rw [h, if_neg hc, hp], fun h0 => absurd (h ▸ h0) hc, grow_ext hE⟩
end

section
set_option linter.unusedVariables false
set_option linter.unusedSimpArgs false

open Go.RowKit

theorem blk_hp {w w' : World} {C : Nat} {vs : List Value} (h : Blk w C vs) (e : w'.heap[C]? = w.heap[C]?) : Blk w' C vs := fun i v hi =>
  ⟨(World.cell?_of_block (a := ⟨C, i, none⟩) e).trans (h i v hi).1, (World.frozen?_of_block (a := ⟨C, i, none⟩) e).trans (h i v hi).2⟩

/-- Blocks that may have turned: the list's own, and newer ones. -/
def Xof (o : Option Nat) (S : Nat) (q : Nat) : Prop := o = some q ∨ S ≤ q

theorem grwX_grown {o o1 : Option Nat} {S : Nat} {a b : World} (h : a.grownBy b o1) (k : ∀ q, o1 = some q → Xof o S q) : Grw (Xof o S) a b := ⟨h.os, h.tape, h.output, h.size, fun q hq hn => h.block q hq (fun e => hn (k q e.symm))⟩

theorem grw_set {o : Option Nat} {S g i : Nat} {a : World} {v : Value} (h : Xof o S g) : Grw (Xof o S) a (a.setCell ⟨g, i, none⟩ v) := Grw.of_touch ((Touch.refl g a).set i v) h

theorem grown_grw {o : Option Nat} {a b : World} (h : Grw (Xof o a.heap.size) a b) : a.grownBy b o := ⟨h.os, h.tape, h.output, h.size, fun q hq hn => h.block q hq (fun e => by
  rcases e with e | e
  · exact hn e.symm
  · omega)⟩

theorem LAcc.at3 {B : Nat} {W : World} {g n cap : Nat} {A C : List It} {t : It} (h : LAcc B W (.slice (some ⟨g, 0, none⟩) n cap) (A ++ t :: C)) : W.cell? ⟨g, A.length * 3, none⟩ = some (.int .i64 t.tag) ∧ W.cell? ⟨g, A.length * 3 + 1, none⟩ = some (.slice t.ad t.len t.cap) ∧ W.cell? ⟨g, A.length * 3 + 2, none⟩ = some (.int .i64 t.kid) ∧ ∀ j, W.frozen? ⟨g, j, none⟩ = false := by
  have hn := h.len_n
  have hr := h.row
  rw [← hn] at hr
  have hl : n * 3 = A.length * 3 + 3 + C.length * 3 := by rw [hn]; simp; omega
  have hg : ∀ j, j < 3 → W.cell? ⟨g, A.length * 3 + j, none⟩ = (itW t)[j]? := fun j hj => by
    rw [World.ownsRow.cellAt hr (A.length * 3 + j) (by omega), rowL_at]
    have ha : (rowL A).length = A.length * 3 := rowL_len A
    rw [List.getElem?_append_right (by omega), ha, Nat.add_sub_cancel_left, List.getElem?_append_left (by rw [itW_len]; exact hj)]
  exact ⟨hg 0 (by omega), hg 1 (by omega), hg 2 (by omega), fun j => World.ownsRow.frozenAt hr j⟩

theorem heap_putL (C : Nat) : ∀ (vs : List Value) (i : Nat) (w : World) (k : Nat), k ≠ C → (putL C i vs w).heap[k]? = w.heap[k]?
  | [], _, _, _, _ => rfl
  | v :: vs, i, w, k, hk => (heap_putL C vs (i + 1) _ k hk).trans (Below.heap_setCell _ _ _ _ (by show k ≠ C; exact hk))
end

end Go.Proofs.YtmcdikbcmikihaaDoor
