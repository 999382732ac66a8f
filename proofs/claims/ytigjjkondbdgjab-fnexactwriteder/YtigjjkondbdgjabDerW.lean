/- Walks: the model's l7Write: an item and what is below it as bytes. -/
import Derived.Test.YtigjjkondbdgjabTrM
import Derived.Test.YtigjjkondbdgjabDerL
import Derived.Test.YtigjjkondbdgjabStepsC
namespace Go.Proofs.Ytigjjkondbdgjab
set_option linter.unusedVariables false
set_option linter.unusedSimpArgs false
open Go.RowKit

/-- Lists of bytes as values. -/
def bl (L : List Int) : List Value := L.map (.int .u8 ·)
theorem bl_byts (L : List Int) : bl L = byts (fun i => L.getD i 0) L.length := by
  unfold bl byts
  apply List.ext_getElem
  · simp
  · intro i h1 h2
    simp at h1
    simp [h1]
theorem byts_bl (f : Nat → Int) (n : Nat) : byts f n = bl ((List.range n).map f) := by
  unfold bl byts
  simp
theorem bl_app (A B : List Int) : bl A ++ bl B = bl (A ++ B) := by unfold bl; simp

/-- The bytes of an item's body, of a length. -/
def boL (x : It) : List Int := (List.range x.len).map x.f
def lgL (n : Nat) : List Int := (List.range (lgN n)).map (lgF n)
/-- The bytes of the first k kids. -/
def wrB (g : Nat → List Int) (f : Nat → Int) (s : Int) : Nat → List Int
  | 0 => []
  | k + 1 => wrB g f s k ++ g (kidsF f k s).toNat
/-- The bytes of an item. -/
def wrF (x : Nat → It) (n : Nat) : Nat → Nat → List Int
  | 0, _ => []
  | m + 1, i => (x i).tag :: (lgL (boL (x i) ++ wrB (wrF x n m) (endF (fun j => (x j).kid) n m) ((i : Int) + 1) (x i).kid.toNat).length ++ (boL (x i) ++ wrB (wrF x n m) (endF (fun j => (x j).kid) n m) ((i : Int) + 1) (x i).kid.toNat))
theorem wrB_le (g : Nat → List Int) (f : Nat → Int) (s : Int) {k K : Nat} (h : k ≤ K) : (wrB g f s k).length ≤ (wrB g f s K).length := by
  induction K with
  | zero =>
    obtain rfl : k = 0 := by omega
    exact Nat.le_refl _
  | succ K ih =>
    by_cases e : k = K + 1
    · subst e; exact Nat.le_refl _
    · have := ih (by omega)
      rw [wrB, List.length_append]
      omega
theorem kids_ok {f : Nat → Int} {s : Int} {K : Nat} (h : 0 ≤ kidsF f K s) {k : Nat} (hk : k ≤ K) : 0 ≤ kidsF f k s := by
  by_cases e : k = K
  · subst e; exact h
  · by_cases c : kidsF f k s < 0
    · have := kidsF_neg c K (by omega); omega
    · omega

theorem l1BytesD_any (a : Option Addr) (b off n cap : Nat) (f : Nat → Int) (w : World) (hB : BSeg w a b off n f) (hn : n ≤ 1099511627776) : Calls Try.prog 63 #[.slice a n cap] w fun e w' => GivesR w n f e w' := by
  have hown := World.ownsRow_made (base := w.heap.size) (e := 5) (size := 1) w #[] 0 (Nat.le_refl _) (by simp) rfl
  have Hb := hide (hB.of_all (Ext.alloc w (.cells #[] 5)))
  have Ho := hide hown
  clear hB hown
  go_enter Try.func63, Try.ntmps63
  go_wp2_with (at_builtin; refine wpList_append_bs rfl _ _ rfl w.heap.size _ 0 [] rfl Ho.out _ b off n cap f rfl Hb.out (by omega) (by simp) ?_)
  intro v' w1 h1 h2
  have HO := hide h1
  clear h1 Ho Hb
  have HE : Hid (Ext w w1) := hide (((Below.refl _ _).alloc (Nat.le_refl _) _).trans h2)
  clear h2
  go_wp2
  go_ret
  have h3 := HO.out
  first | exact ⟨_, rfl, h3, HE.out⟩ | (rw [Nat.zero_add] at h3; exact ⟨_, rfl, h3, HE.out⟩)

theorem endF_lt {kid : Nat → Int} {n m z : Nat} (h : 0 ≤ endF kid n m z) : z < n := by
  cases m with
  | zero => have : endF kid n 0 z = -1 := rfl; omega
  | succ m =>
    rw [endF] at h
    by_cases c : n ≤ z
    · rw [if_pos c] at h; omega
    · omega

theorem Grw.of_belowW {X : Nat → Prop} {B : Nat} {a b : World} (h : Below B a b) (hX : ∀ k, B ≤ k → X k) : Grw X a b :=
  ⟨h.os, h.tape, h.output, h.size, fun k hk hn => h.block k (by
    by_cases hh : k < B
    · exact hh
    · exact absurd (hX k (by omega)) hn)⟩

/-- The answer: bytes of the call's own and the place behind. -/
def GivesWr (W : World) (L : List Int) (e : Int) (en : Ending) (w' : World) : Prop := ∃ v, en = .returned (.tuple #[v, .int .i64 e]) ∧ w'.ownsRow W.heap.size 5 1 v L.length (bl L) ∧ Ext W w'

set_option maxHeartbeats 3200000 in
set_option maxRecDepth 100000 in
theorem l7Write_any (a : Option Addr) (b off n cap : Nat) (x : Nat → It) (w : World) (hs : ISeg w a b off n x) (hn : n ≤ 1048576) (hkid : ∀ i, i < n → 0 ≤ (x i).kid ∧ (x i).kid ≤ 1048576) (htag : ∀ i, i < n → 0 ≤ (x i).tag ∧ (x i).tag ≤ 255) :
    ∀ (m i : Nat) (W : World), i < n → 0 ≤ endF (fun j => (x j).kid) n m i → (wrF x n m i).length ≤ 60000 → Ext w W →
    Calls Try.prog 35 #[.slice a n cap, .int .i64 i] W fun e w' => GivesWr W (wrF x n m i) (endF (fun j => (x j).kid) n m i) e w'
  | 0, i, W, hi, h0, hl, hE => by
    have : endF (fun j => (x j).kid) n 0 i = -1 := rfl
    omega
  | m + 1, i, W, hi, h0, hl, hE => by
    have e1 : endF (fun j => (x j).kid) n (m + 1) i = kidsF (endF (fun j => (x j).kid) n m) (x i).kid.toNat (i + 1) := by rw [endF]; rw [if_neg (by omega)]
    have e2 : wrF x n (m + 1) i = (x i).tag :: (lgL (boL (x i) ++ wrB (wrF x n m) (endF (fun j => (x j).kid) n m) ((i : Int) + 1) (x i).kid.toNat).length ++ (boL (x i) ++ wrB (wrF x n m) (endF (fun j => (x j).kid) n m) ((i : Int) + 1) (x i).kid.toNat)) := rfl
    rw [e1] at h0
    rw [e2] at hl
    rw [e1, e2]
    have IH := hide (fun (i : Nat) (W : World) (hi : i < n) (h0 : 0 ≤ endF (fun j => (x j).kid) n m i) (hl : (wrF x n m i).length ≤ 60000) (hE : Ext w W) => l7Write_any a b off n cap x w hs hn hkid htag m i W hi h0 hl hE)
    have hr := endF_range (fun j => (x j).kid) n m
    have Hn : Hid (∀ z, 0 ≤ endF (fun j => (x j).kid) n m z → z < n) := fun z h => endF_lt h
    generalize endF (fun j => (x j).kid) n m = f at *
    generalize wrF x n m = g at *
    clear e1 e2
    obtain rfl := hs.at' (by omega)
    obtain ⟨hk0, hk1⟩ := hkid i hi
    obtain ⟨ht0, ht1⟩ := htag i hi
    obtain ⟨K, hK⟩ : ∃ K : Nat, (x i).kid = K := ⟨(x i).kid.toNat, by omega⟩
    rw [show (x i).kid.toNat = K by omega] at h0 hl ⊢
    have HS := hide hs
    have HE := hide hE
    have HR := hide hr
    have H0 := hide h0
    have hl2 : (boL (x i) ++ wrB g f ((i : Int) + 1) K).length ≤ 60000 := by
      rw [List.length_cons, List.length_append] at hl
      omega
    have HL := hide hl2
    have hsW := hs.of_all hE
    have c0 := hsW.c0 i hi
    have c1 := hsW.c1 i hi
    have c2 := hsW.c2 i hi
    rw [hK] at c2
    have HBd := hide (hsW.body i hi)
    clear hs hE hr hkid htag h0 hl hl2 hsW
    have hlen : (x i).len ≤ 60000 := by
      have := HL.out
      rw [List.length_append] at this
      simp only [boL, List.length_map, List.length_range] at this
      omega
    have HY := hide (l1BytesD_any (x i).ad (x i).blk (x i).off (x i).len (x i).cap (x i).f W HBd.out (by omega))
    unfold GivesR at HY
    rw [byts_bl] at HY
    have hin : (i : Int) < (n : Int) := by omega
    have hbl : (boL (x i)).length = (x i).len := by simp [boL]
    rw [show (List.range (x i).len).map (x i).f = boL (x i) from rfl, ← hbl] at HY
    have Hbl := hide hbl
    generalize hBO : boL (x i) = BO at *
    generalize hTg : (x i).tag = tag at *
    have HTg := hide hTg
    clear hTg
    clear HBd hlen hbl
    go_enter Try.func35, Try.ntmps35
    go_wp2_with fail
    rw [← Hbl.out]
    refine HY.out.mono ?_
    rintro e w1 ⟨v, rfl, hO, hE1⟩
    have HO := hide hO
    have HE1 := hide hE1
    clear hO hE1 HY
    go_wp2_with fail
    clear c0 c1 c2
    go_loopw [6, 7, 8] (fun v nx kv wr => ∃ k : Nat, k ≤ K ∧ kv = .int .i64 (k : Int) ∧ nx = .int .i64 (kidsF f k (i + 1)) ∧ wr.ownsRow W.heap.size 5 1 v (BO ++ wrB g f ((i : Int) + 1) k).length (bl (BO ++ wrB g f ((i : Int) + 1) k)) ∧ Ext W wr) (fun _ _ kv _ => K - (intOf kv).toNat)
    case atStart => exact ⟨0, Nat.zero_le _, rfl, rfl, by rw [wrB, List.append_nil]; exact HO.out, HE1.out⟩
    case round =>
      clear HO HE1
      obtain ⟨k, hk, rfl, rfl, hO, hE1⟩ := hrel
      have hz0 := kids_ok H0.out hk
      obtain ⟨z, hz⟩ : ∃ z : Nat, kidsF f k (i + 1) = z := ⟨(kidsF f k (i + 1)).toNat, by omega⟩
      have c0 := (HS.out.of_all (HE.out.trans hE1)).c0 i hi
      rw [HTg.out] at c0
      have c2 := (HS.out.of_all (HE.out.trans hE1)).c2 i hi
      rw [hK] at c2
      have HE1 := hide hE1
      have HO := hide hO
      by_cases hlt : k < K
      · have hlt' : (k : Int) < (K : Int) := by omega
        have hnx : kidsF f (k + 1) (i + 1) = f z := by
          show (if kidsF f k (i + 1) < 0 then -1 else f (kidsF f k (i + 1)).toNat) = f z
          rw [hz, if_neg (by omega), Int.toNat_natCast]
        have hfz : 0 ≤ f z := by rw [← hnx]; exact kids_ok H0.out hlt
        have hst : BO ++ wrB g f ((i : Int) + 1) (k + 1) = (BO ++ wrB g f ((i : Int) + 1) k) ++ g z := by
          rw [wrB, hz, Int.toNat_natCast, List.append_assoc]
        have hle : (BO ++ wrB g f ((i : Int) + 1) (k + 1)).length ≤ 60000 := by
          have h1 := wrB_le g f ((i : Int) + 1) (show k + 1 ≤ K from hlt)
          have h2 := HL.out
          rw [List.length_append] at h2 ⊢
          omega
        rw [hst, List.length_append] at hle
        have HC := hide (IH.out z wr (Hn.out z hfz) hfz (by omega) (HE.out.trans HE1.out))
        rw [hz]
        have Hnx := hide hnx
        have Hst := hide hst
        generalize BO ++ wrB g f ((i : Int) + 1) k = A at *
        generalize g z = Gz at *
        generalize f z = fz at *
        clear hO hE1 hz0 hz hnx hst hfz c0
        go_wp2_with fail
        refine HC.out.mono ?_
        rintro e w3 ⟨v3, rfl, hO3, hE3⟩
        obtain ⟨G2, hG2⟩ : ∃ G2 : Nat → Int, bl Gz = byts G2 Gz.length := ⟨_, bl_byts Gz⟩
        rw [hG2] at hO3
        have HG2 := hide hG2
        obtain ⟨ya, yg, yc, rfl, hyg, hyn, hyc, hyB⟩ := owns_seg hO3
        have HX := hide hyB.toBSeg
        have HO2 := hide (owns_ext' HO.out hE3)
        have HE3 := hide (HE1.out.trans hE3)
        have hsz : W.heap.size ≤ w3.heap.size := Below.size HE3.out
        clear hO3 hE3 hyB HC hG2
        go_wp2_with (at_builtin; refine wpList_append_bs rfl _ _ rfl W.heap.size _ A.length (bl A) rfl HO2.out _ yg 0 Gz.length yc G2 rfl HX.out (by omega) hsz ?_)
        intro v5 w5 hO5 hb5
        rw [← HG2.out, bl_app, ← List.length_append] at hO5
        have HO5 := hide hO5
        have HE5 := hide (Below.trans HE3.out hb5)
        obtain ⟨za, zg, zc, rfl⟩ : ∃ za zg zc, v5 = .slice za (A ++ Gz).length zc := by
          rw [bl_byts] at hO5
          obtain ⟨a1, g1, c1, rfl, -⟩ := owns_seg hO5
          exact ⟨a1, g1, c1, rfl⟩
        clear hO5 hb5 HX HO2
        go_wp2
        go_roundw
        case rel => exact ⟨k + 1, hlt, by go_num, by rw [Hnx.out], by rw [Hst.out]; exact HO5.out, HE5.out⟩
        case measure => simp [intOf]; omega
      · obtain rfl : k = K := by omega
        have hlt' : ¬ (k : Int) < (k : Int) := by omega
        have hle := HL.out
        rw [hz]
        have Hz := hide hz
        generalize hAA : BO ++ wrB g f ((i : Int) + 1) k = A at *
        have HAA := hide hAA
        clear hAA
        have HLn := hide (fun W => l7Length_any (A.length : Int) W (by omega) (by omega))
        obtain ⟨A2, hA2⟩ : ∃ A2 : Nat → Int, bl A = byts A2 A.length := ⟨_, bl_byts A⟩
        have hO' := hO
        rw [hA2] at hO'
        obtain ⟨va, vg, vc, rfl, hvg, hvn, hvc, hvB⟩ := owns_seg hO'
        have HVB := hide hvB.toBSeg
        have HA2 := hide hA2
        clear hvB hO' hA2
        clear hO hE1 hz0 hz
        go_wp2_with fail
        have hbW : b < W.heap.size := Nat.lt_of_lt_of_le (HS.out.lt (by omega)) (Below.size HE.out)
        have c0' := fun p : ReC (fun q => wr.heap.size ≤ q) wr => cell_reC c0 (by show ¬ wr.heap.size ≤ b; have := Below.size HE1.out; omega) p
        have ht8 : IntKind.u8.wrap tag = tag := by rw [IntKind.wrap_u8]; omega
        have x1 : ∀ q, wr.heap.size ≤ q → wr.heap.size ≤ q := fun _ h => h
        refine anyK_begin (fun q => wr.heap.size ≤ q) 12 rfl (by kernel_rfl) ?_
        refine anyK_take 0 6 6 rfl (by decide) (by kernel_rfl) (fun _ _ d _ _ h => by cases d <;> exact h) ?_
        repeat (refine headC_step (fun K hK => ?_); go_simp; first | (refine hK _ ?_; clear hK K) | (apply Exists.intro; refine ⟨fun _ => ?_, hK _ ?_⟩; (fail); clear hK K))
        refine headC_nil ?_
        refine anyK_take 7 2 4 rfl (by decide) (by kernel_rfl) (fun _ _ d _ _ h => by cases d <;> exact h) ?_
        repeat (refine headC_step (fun K hK => ?_); go_simp; first | (refine hK _ ?_; clear hK K) | (apply Exists.intro; refine ⟨fun _ => ?_, hK _ ?_⟩; (fail); clear hK K))
        refine headC_nil ?_
        clear c0' c0 c2
        refine anyK_two 6 9 (by kernel_rfl) ?_ ?_
        · skip
          refine stepK_run rfl ?_
          intro w3 h3 K2 hK2
          go_simp
          refine hK2 _ _ (.of_ext (h3.trans (Ext.alloc _ _))) ?_
          clear hK2 K2
          have HTw3 := hide (owns_mono (owns_one8 w3 tag) (show wr.heap.size ≤ w3.heap.size from Below.size h3))
          have Ew3 := hide (h3.trans (Ext.alloc w3 (.cells #[.int .u8 tag] 5)))
          generalize w3.alloc (.cells #[.int .u8 tag] 5) = w4 at *
          generalize w3.heap.size = SL at *
          clear h3
          refine anyK_one 9 (by kernel_rfl) ?_
          refine stepK_run rfl ?_
          intro w5 h5 K2 hK2
          go_simp
          refine (HLn.out w5).mono ?_
          rintro e wE ⟨vl, rfl, hOl, hEl⟩
          obtain ⟨ya, yg, yc, rfl, hyg, hyn, hyc, hyB⟩ := owns_seg hOl
          have HXwE := hide hyB.toBSeg
          have HOE := hide (owns_ext' HTw3.out (h5.trans hEl))
          have EE := hide ((Ew3.out.trans h5).trans hEl)
          have HXE := HXwE
          refine hK2 _ _ (.of_ext EE.out) ?_
          clear hK2 K2 HTw3 Ew3 h5 hEl hOl hyB hyg
          refine anyK_one 10 (by kernel_rfl) ?_
          refine stepK_run rfl ?_
          intro w6 h6 K2 hK2
          have HO6 := hide (owns_ext' HOE.out h6)
          have HX6 := hide (HXE.out.of_all h6)
          have E6 := hide (EE.out.trans h6)
          have hB6 : wr.heap.size ≤ w6.heap.size := Below.size E6.out
          rw [if_pos (show _ = true by kernel_rfl)]
          refine wp_append_bs _ _ rfl wr.heap.size _ 1 _ rfl HO6.out _ yg 0 (lgN (A.length : Int)) yc (lgF (A.length : Int)) rfl HX6.out (by have := (lgN_le (n := (A.length : Int)) (by omega) (by omega)).2; omega) hB6 ?_
          intro v7 w7 hO7 hb7
          refine hK2 _ _ ((Grw.of_ext E6.out).trans (Grw.of_belowW hb7 x1)) ?_
          clear hK2 K2
          have HO7 : Hid (w7.ownsRow wr.heap.size 5 1 v7 (tag :: lgL A.length).length (bl (tag :: lgL A.length))) := by
            have e : byts (fun _ => tag) 1 ++ byts (lgF (A.length : Int)) (lgN (A.length : Int)) = bl (tag :: lgL A.length) := by
              rw [byts_bl (lgF (A.length : Int))]
              rfl
            have e2 : (tag :: lgL A.length).length = 1 + lgN (A.length : Int) := by simp [lgL]; omega
            rw [e2, ← e]
            exact hO7
          have HE7 : Hid (Ext W w7) := hide (Below.trans (HE1.out.trans E6.out) (hb7.mono (Below.size HE1.out)))
          have HV7 := hide ((HVB.out.of_all E6.out).below hb7 (fun h => HVB.out.lt h))
          have Hb7 := hide hb7
          clear hO7 hb7 HO6 HX6 HOE HXE EE h6 hB6
          refine anyK_take 11 1 0 rfl (by decide) (by kernel_rfl) (fun _ _ d _ _ h => by cases d <;> exact h) ?_
          repeat (refine headC_step (fun K hK => ?_); go_simp; first | (refine hK _ ?_; clear hK K) | (apply Exists.intro; refine ⟨fun _ => ?_, hK _ ?_⟩; (fail); clear hK K))
          refine headC_nil ?_
          refine anyK_done (by kernel_rfl) ?_ 0
          intro w8 h8
          have HO8 := hide (owns_ext' HO7.out h8)
          have HV8 := hide (HV7.out.of_all h8)
          have HE8 := hide (HE7.out.trans h8)
          obtain ⟨T2, hT2⟩ : ∃ T2 : Nat → Int, bl (tag :: lgL A.length) = byts T2 (tag :: lgL A.length).length := ⟨_, bl_byts _⟩
          have hO8 := HO8.out
          rw [hT2] at hO8
          obtain ⟨oa, og, oc, rfl, -, -, -, -⟩ := owns_seg hO8
          have hB8 : wr.heap.size ≤ w8.heap.size := by have h1 := Below.size Hb7.out; have h2 := Below.size E6.out; have h3 := Below.size h8; omega
          have hcn : (tag :: lgL A.length).length ≤ 20 := by have := (lgN_le (n := (A.length : Int)) (by omega) (by omega)).2; simp [lgL]; omega
          clear hT2 hO8 HO7 HV7 HE7 Hb7 h8
          generalize hTL : tag :: lgL A.length = TL at *
          have HTL := hide hTL
          clear hTL
          go_wp2_with (at_builtin; refine wpList_append_bs rfl _ _ rfl wr.heap.size _ TL.length (bl TL) rfl HO8.out _ vg 0 A.length vc A2 rfl HV8.out (by omega) hB8 ?_)
          intro v9 w9 hO9 hb9
          rw [← HA2.out, bl_app, ← List.length_append] at hO9
          have HF : Hid (GivesWr W (TL ++ A) (z : Int) (.returned (.tuple #[v9, .int .i64 (z : Int)])) w9) := ⟨v9, rfl, owns_mono hO9 (Below.size HE1.out), Below.trans HE8.out (hb9.mono (Below.size HE1.out))⟩
          clear hO9 hb9 HO8 HV8 HE8
          go_wp2
          go_ret2
          rw [HAA.out, Hz.out, show tag :: (lgL A.length ++ A) = TL ++ A by rw [← HTL.out]; rfl]
          exact HF.out
        · skip
          refine stepK_run rfl ?_
          intro w3 h3 K2 hK2
          go_simp
          refine (HLn.out w3).mono ?_
          rintro e w4 ⟨vl, rfl, hOl, hEl⟩
          obtain ⟨ya, yg, yc, rfl, hyg, hyn, hyc, hyB⟩ := owns_seg hOl
          have HXw4 := hide hyB.toBSeg
          refine hK2 _ _ (.of_ext (h3.trans hEl)) ?_
          clear hK2 K2
          have E4 := hide (h3.trans hEl)
          clear h3 hEl hOl hyB hyg
          refine anyK_one 6 (by kernel_rfl) ?_
          refine stepK_run rfl ?_
          intro w5 h5 K2 hK2
          go_simp
          refine hK2 _ _ (.of_ext ((E4.out.trans h5).trans (Ext.alloc _ _))) ?_
          clear hK2 K2
          have HTw5 := hide (owns_mono (owns_one8 w5 tag) (show wr.heap.size ≤ w5.heap.size from Below.size (E4.out.trans h5)))
          have Ew5 := hide ((E4.out.trans h5).trans (Ext.alloc w5 (.cells #[.int .u8 tag] 5)))
          have HXE := hide ((HXw4.out.of_all h5).of_all (Ext.alloc w5 (.cells #[.int .u8 tag] 5)))
          have HOE := HTw5
          have EE := Ew5
          generalize w5.alloc (.cells #[.int .u8 tag] 5) = wE at *
          generalize w5.heap.size = SL at *
          clear h5 HTw5 Ew5 HXw4 E4
          refine anyK_one 10 (by kernel_rfl) ?_
          refine stepK_run rfl ?_
          intro w6 h6 K2 hK2
          have HO6 := hide (owns_ext' HOE.out h6)
          have HX6 := hide (HXE.out.of_all h6)
          have E6 := hide (EE.out.trans h6)
          have hB6 : wr.heap.size ≤ w6.heap.size := Below.size E6.out
          rw [if_pos (show _ = true by kernel_rfl)]
          refine wp_append_bs _ _ rfl wr.heap.size _ 1 _ rfl HO6.out _ yg 0 (lgN (A.length : Int)) yc (lgF (A.length : Int)) rfl HX6.out (by have := (lgN_le (n := (A.length : Int)) (by omega) (by omega)).2; omega) hB6 ?_
          intro v7 w7 hO7 hb7
          refine hK2 _ _ ((Grw.of_ext E6.out).trans (Grw.of_belowW hb7 x1)) ?_
          clear hK2 K2
          have HO7 : Hid (w7.ownsRow wr.heap.size 5 1 v7 (tag :: lgL A.length).length (bl (tag :: lgL A.length))) := by
            have e : byts (fun _ => tag) 1 ++ byts (lgF (A.length : Int)) (lgN (A.length : Int)) = bl (tag :: lgL A.length) := by
              rw [byts_bl (lgF (A.length : Int))]
              rfl
            have e2 : (tag :: lgL A.length).length = 1 + lgN (A.length : Int) := by simp [lgL]; omega
            rw [e2, ← e]
            exact hO7
          have HE7 : Hid (Ext W w7) := hide (Below.trans (HE1.out.trans E6.out) (hb7.mono (Below.size HE1.out)))
          have HV7 := hide ((HVB.out.of_all E6.out).below hb7 (fun h => HVB.out.lt h))
          have Hb7 := hide hb7
          clear hO7 hb7 HO6 HX6 HOE HXE EE h6 hB6
          refine anyK_take 11 1 0 rfl (by decide) (by kernel_rfl) (fun _ _ d _ _ h => by cases d <;> exact h) ?_
          repeat (refine headC_step (fun K hK => ?_); go_simp; first | (refine hK _ ?_; clear hK K) | (apply Exists.intro; refine ⟨fun _ => ?_, hK _ ?_⟩; (fail); clear hK K))
          refine headC_nil ?_
          refine anyK_done (by kernel_rfl) ?_ 0
          intro w8 h8
          have HO8 := hide (owns_ext' HO7.out h8)
          have HV8 := hide (HV7.out.of_all h8)
          have HE8 := hide (HE7.out.trans h8)
          obtain ⟨T2, hT2⟩ : ∃ T2 : Nat → Int, bl (tag :: lgL A.length) = byts T2 (tag :: lgL A.length).length := ⟨_, bl_byts _⟩
          have hO8 := HO8.out
          rw [hT2] at hO8
          obtain ⟨oa, og, oc, rfl, -, -, -, -⟩ := owns_seg hO8
          have hB8 : wr.heap.size ≤ w8.heap.size := by have h1 := Below.size Hb7.out; have h2 := Below.size E6.out; have h3 := Below.size h8; omega
          have hcn : (tag :: lgL A.length).length ≤ 20 := by have := (lgN_le (n := (A.length : Int)) (by omega) (by omega)).2; simp [lgL]; omega
          clear hT2 hO8 HO7 HV7 HE7 Hb7 h8
          generalize hTL : tag :: lgL A.length = TL at *
          have HTL := hide hTL
          clear hTL
          go_wp2_with (at_builtin; refine wpList_append_bs rfl _ _ rfl wr.heap.size _ TL.length (bl TL) rfl HO8.out _ vg 0 A.length vc A2 rfl HV8.out (by omega) hB8 ?_)
          intro v9 w9 hO9 hb9
          rw [← HA2.out, bl_app, ← List.length_append] at hO9
          have HF : Hid (GivesWr W (TL ++ A) (z : Int) (.returned (.tuple #[v9, .int .i64 (z : Int)])) w9) := ⟨v9, rfl, owns_mono hO9 (Below.size HE1.out), Below.trans HE8.out (hb9.mono (Below.size HE1.out))⟩
          clear hO9 hb9 HO8 HV8 HE8
          go_wp2
          go_ret2
          rw [HAA.out, Hz.out, show tag :: (lgL A.length ++ A) = TL ++ A by rw [← HTL.out]; rfl]
          exact HF.out

end Go.Proofs.Ytigjjkondbdgjab
