/- Walks: the model's Children. -/
import Derived.Test.YtifokecmmnineabChi
import Derived.Test.YtifokecmmnineabNatOk
namespace Go.Proofs.Ytifokecmmnineab
set_option linter.unusedVariables false
set_option linter.unusedSimpArgs false
open Go.RowKit

theorem iys_step {L : List Int} {w wr w1 : World} {v v' : Value} {o : Obj} {x : Int} (hO : wr.ownsRow w.heap.size 3 1 v L.length (iys L)) (hE : Ext w wr)
    (hown : w1.ownsRow w.heap.size 3 1 v' (L.length + 1) (iys L ++ [.int .i64 x])) (hg : (wr.alloc o).grownBy w1 v.ownBlock) : w1.ownsRow w.heap.size 3 1 v' (L ++ [x]).length (iys (L ++ [x])) ∧ Ext w w1 := by
  refine ⟨?_, (Below.alloc hE (Below.size hE) o).grown hg (by have := Below.size hE; simp; omega) (fun j hj => (hO.lt j hj).1)⟩
  simpa [iys] using hown

theorem kidsF_first {f : Nat → Int} (hf : ∀ i, -1 ≤ f i) {K s : Nat} (h : 0 ≤ kidsF f (K + 1) s) : ∃ e : Nat, f s = e ∧ 0 ≤ kidsF f K e := by
  rw [kidsF_front _ hf] at h
  by_cases c : 0 ≤ f s
  · obtain ⟨e, he⟩ := nat_of c
    rw [he] at h
    exact ⟨e, he, h⟩
  · have := hf s
    rw [show f s = -1 by omega, kidsF_minus] at h
    omega

theorem kpF_len (f : Nat → Int) : ∀ K s, (kpF f K s).length = K
  | 0, s => rfl
  | K + 1, s => by rw [kpF, List.length_cons, kpF_len f K]

set_option maxHeartbeats 1600000 in
set_option maxRecDepth 100000 in
theorem l7Kids_any (b off n cap : Nat) (x : Nat → It) (i : Nat) (w : World) (hs : ISeg w (some ⟨b, off, none⟩) b off n x) (hn : n ≤ 300) (hi : i < n) (hkid : ∀ i, i < n → 0 ≤ (x i).kid ∧ (x i).kid ≤ 300)
    (hF : 0 ≤ kidsF (endF (fun j => (x j).kid) n 13) (x i).kid.toNat ((i + 1 : Nat) : Int)) :
    Calls Try.prog 32 #[.slice (some ⟨b, off, none⟩) n cap, .int .i64 (i : Int)] w fun e w' => ∃ v, e = .returned v ∧ w'.ownsRow w.heap.size 3 1 v ((kpF (endF (fun j => (x j).kid) n 13) (x i).kid.toNat (i + 1)).map Int.ofNat).length (iys ((kpF (endF (fun j => (x j).kid) n 13) (x i).kid.toNat (i + 1)).map Int.ofNat)) ∧ Ext w w' := by
  obtain ⟨i0, hi0, hz0, hz1, hz2⟩ := info_parts Try.info3
  have HEn : Hid (∀ (s : Nat) (W : World), s ≤ n → Ext w W → Calls Try.prog 27 #[.slice (some ⟨b, off, none⟩) n cap, .int .i64 (s : Int), .int .i64 0] W fun e w' => e = .returned (.int .i64 (endF (fun j => (x j).kid) n 13 s)) ∧ Ext W w') := fun s W h1 h2 => l7End_any (some ⟨b, off, none⟩) b off n cap x w hs (by omega) (fun i hi => by have := hkid i hi; omega) 13 s 0 W rfl h1 h2
  have HO := hide (World.ownsRow_made (base := w.heap.size) (e := 3) (size := 1) w #[] 0 (Nat.le_refl _) (by simp) rfl)
  have Hr : Hid (∀ s, -1 ≤ endF (fun j => (x j).kid) n 13 s ∧ endF (fun j => (x j).kid) n 13 s ≤ n) := fun s => endF_range _ n 13 s
  generalize endF (fun j => (x j).kid) n 13 = E at *
  obtain ⟨K, hK⟩ := nat_of (hkid i hi).1
  have hK300 : K ≤ 300 := by have := (hkid i hi).2; omega
  rw [show (x i).kid.toNat = K by omega] at hF ⊢
  have HF := hide hF
  have Hs := hide hs
  have HK := hide hK
  obtain ⟨R, hR⟩ : ∃ R, R = (kpF E K (i + 1)).map Int.ofNat := ⟨_, rfl⟩
  rw [← hR]
  have HR := hide hR
  clear hF hs hK hR hkid
  go_enter Try.func32, Try.ntmps32
  go_wp2
  go_loopw [5, 6, 7] (fun v s k wr => ∃ (j p : Nat) (acc : List Int), j ≤ K ∧ k = .int .i64 (j : Int) ∧ s = .int .i64 (p : Int) ∧ (j < K → p ≤ n) ∧ 0 ≤ kidsF E (K - j) (p : Int) ∧ acc ++ (kpF E (K - j) p).map Int.ofNat = R ∧ acc.length ≤ j ∧ wr.ownsRow w.heap.size 3 1 v acc.length (iys acc) ∧ Ext w wr) (fun _ _ k _ => K - (intOf k).toNat)
  case atStart => exact ⟨0, i + 1, [], Nat.zero_le _, rfl, by go_num, fun _ => by omega, HF.out, HR.out.symm, Nat.le_refl _, HO.out, Ext.alloc _ _⟩
  case round =>
    clear HO HF HR
    obtain ⟨j, p, acc, hj, rfl, rfl, hp, hF, hA, hl, hO, hE⟩ := hrel
    have HO := hide hO
    have HE := hide hE
    have HA := hide hA
    have hin : (i : Int) < (n : Int) := by omega
    have c2 := (Hs.out.of_all hE).c2 i hi
    rw [HK.out] at c2
    clear hO hE hA
    by_cases hlt : j < K
    · have hjk : (j : Int) < (K : Int) := by omega
      obtain ⟨e, he, hF2⟩ := kidsF_first (fun s => (Hr.out s).1) (K := K - (j + 1)) (s := p) (by rw [show K - (j + 1) + 1 = K - j by omega]; exact hF)
      have HX : Hid ((acc ++ [(p : Int)]) ++ (kpF E (K - (j + 1)) e).map Int.ofNat = R) := by
        show _ = _
        rw [← HA.out, show K - j = (K - (j + 1)) + 1 by omega, kpF, he]
        simp
      have hep : e ≤ n := by have := (Hr.out p).2; omega
      have hpn := hp hlt
      have HEn2 : Hid (∀ W, Ext w W → Calls Try.prog 27 #[.slice (some ⟨b, off, none⟩) n cap, .int .i64 (p : Int), .int .i64 0] W fun e' w' => e' = .returned (.int .i64 (e : Int)) ∧ Ext W w') := fun W h => by have := HEn.out p W hpn h; rw [he] at this; exact this
      have HF2 := hide hF2
      clear hF hF2 he HA
      go_wp2_with (at_builtin; refine wpList_append_own _ rfl _ _ 22 rfl w.heap.size 3 i0 (.int .i64 0) 1 8 Try.underlying22 hi0 hz0 hz1 hz2 rfl (by decide) _ _ _ rfl (HO.out.alloc _) ⟨wr.heap.size, 0, none⟩ 1 1 [.int .i64 (p : Int)] rfl rfl (cell_one_new _ _ _) (iys_one _) (by unfold maxLen; omega) (by omega) (by have := Below.size HE.out; simp; omega) ?_; intro v' w4 hown' hgrow hnil)
      have HN := hide (iys_step HO.out HE.out hown' hgrow)
      clear hown' hgrow hnil HO HE
      go_wp2_with (go_at_call 27; refine (HEn2.out _ HN.out.2).mono ?_; rintro e' w5 ⟨rfl, hE5⟩; have HE5 := hide hE5; clear hE5)
      go_roundw
      case rel => exact ⟨j + 1, e, acc ++ [(p : Int)], by omega, by go_num, rfl, fun _ => hep, HF2.out, HX.out, by simp; omega, owns_keep' HN.out.1 HE5.out, Ext.trans HN.out.2 HE5.out⟩
      case measure => simp [intOf]; omega
    · have hjk : ¬ (j : Int) < (K : Int) := by omega
      obtain rfl : j = K := by omega
      have hend : acc = R := by have h := HA.out; rw [Nat.sub_self, kpF] at h; simpa using h
      subst hend
      go_wp2
      go_ret
      exact ⟨_, rfl, HO.out, HE.out⟩

set_option maxHeartbeats 1600000 in
set_option maxRecDepth 100000 in
theorem specChildren_any (a : Option Addr) (b off n cap : Nat) (x : Nat → It) (z : Int) (w : World) (hs : ISeg w a b off n x) (hn : n ≤ 1048576) (hz : z ≤ 9223372036854775807) :
    Calls Try.prog 15 #[.slice a n cap, .int .i64 z] w fun e w' => GivesC w (mdL x n z) (mdB x n z) e w' := by
  have hO0 := World.ownsRow_made (base := w.heap.size) (e := 3) (size := 1) w #[] 0 (Nat.le_refl _) (by simp) rfl
  have HO := hide hO0
  have HE0 : Hid (Ext w (w.alloc (.cells #[] 3))) := Ext.alloc _ _
  have HT := hide (specTree_any a b off n cap x (w.alloc (.cells #[] 3)) (hs.of_all HE0.out) hn)
  clear hO0
  have hwr : wrap64 ((n : Int) - 1) = (n : Int) - 1 := by unfold wrap64; omega
  cases htr : treeV x n
  · have hm : mdB x n z = false := by unfold mdB hasB; rw [htr]; rfl
    have hl : mdL x n z = [] := by unfold mdL; rw [hm]; rfl
    rw [htr] at HT
    rw [hm, hl]
    go_enter Try.func15, Try.ntmps15
    go_wp2_with (go_at_call 11; refine HT.out.mono ?_; rintro e w1 ⟨rfl, hE⟩; have HE := hide hE; clear hE)
    go_ret2
    exact ⟨_, rfl, owns_keep' HO.out HE.out, Ext.trans HE0.out HE.out⟩
  · rw [htr] at HT
    obtain ⟨h1, h300, hg⟩ := tree_good htr
    obtain rfl := hs.at' (by omega)
    by_cases hin : 0 ≤ z ∧ z < n
    · obtain ⟨i, rfl⟩ := Int.eq_ofNat_of_zero_le hin.1
      have hi : i < n := by omega
      have hinn : (i : Int) < (n : Int) := by omega
      have hq : (decide ((0 : Int) ≤ (i : Int)) && decide ((i : Int) ≤ (n : Int) - 1)) = true := by simp; omega
      have HIn : Hid (∀ w, Calls Try.prog 21 #[.int .i64 (i : Int), .int .i64 0, .int .i64 ((n : Int) - 1)] w fun e w' => e = .returned (.bool true) ∧ w' = w) := fun w => by have := l1In_any (i : Int) 0 ((n : Int) - 1) w; rw [hq] at this; exact this
      have hb : hasB x n (i : Int) = true := by unfold hasB; rw [htr]; simp; omega
      have hM : mdB x n (i : Int) = decide ((x i).tag / 32 % 2 = 1) := by unfold mdB; rw [hb]; simp
      obtain ⟨gt0, gt1, -⟩ := hg i hi
      have HMd : Hid (∀ w, Calls Try.prog 26 #[.int .i64 (x i).tag] w fun e w' => e = .returned (.bool (decide ((x i).tag / 32 % 2 = 1))) ∧ w' = w) := fun w => l7Made_any _ w gt0 gt1
      have Hs := hide hs
      clear hs
      cases hmd : decide ((x i).tag / 32 % 2 = 1)
      · have hl : mdL x n (i : Int) = [] := by unfold mdL; rw [hM, hmd]; rfl
        rw [hM, hl]
        rw [hmd] at HMd ⊢
        go_enter Try.func15, Try.ntmps15
        go_wp2_with (first | (go_at_call 11; refine HT.out.mono ?_; rintro e w1 ⟨rfl, hE⟩; have HE := hide hE; have c0 := (Hs.out.of_all (Ext.trans HE0.out hE)).c0 i hi; clear hE) | (go_at_call 21; refine (HIn.out _).mono ?_; rintro e w2 ⟨rfl, hw⟩; obtain rfl := hw.symm) | (go_at_call 26; refine (HMd.out _).mono ?_; rintro e w2 ⟨rfl, hw⟩; obtain rfl := hw.symm))
        go_ret2
        exact ⟨_, rfl, owns_keep' HO.out HE.out, Ext.trans HE0.out HE.out⟩
      · obtain ⟨e, T, he, hie, hen, hT, hST⟩ := tree_part htr hi
        have hL : mdL x n (i : Int) = (kpF (endF (fun j => (x j).kid) n 13) (x i).kid.toNat (i + 1)).map Int.ofNat := by unfold mdL; rw [hM, hmd]; simp
        rw [hM, hL]
        rw [hmd] at HMd ⊢
        have hF : 0 ≤ kidsF (endF (fun j => (x j).kid) n 13) (x i).kid.toNat ((i + 1 : Nat) : Int) := by
          have he2 := he
          rw [endF, if_neg (by omega)] at he2
          have h12 : 0 ≤ kidsF (endF (fun j => (x j).kid) n 12) (x i).kid.toNat ((i + 1 : Nat) : Int) := by
            rw [show (((i + 1 : Nat)) : Int) = (i : Int) + 1 by omega, he2]; omega
          rw [kidsF_mono (endF_mono _ n 12) _ _ h12]
          exact h12
        have HKd : Hid (∀ W, Ext w W → Calls Try.prog 32 #[.slice (some ⟨b, off, none⟩) n cap, .int .i64 (i : Int)] W fun e w' => ∃ v, e = .returned v ∧ w'.ownsRow W.heap.size 3 1 v ((kpF (endF (fun j => (x j).kid) n 13) (x i).kid.toNat (i + 1)).map Int.ofNat).length (iys ((kpF (endF (fun j => (x j).kid) n 13) (x i).kid.toNat (i + 1)).map Int.ofNat)) ∧ Ext W w') := fun W h => l7Kids_any b off n cap x i W (Hs.out.of_all h) h300 hi (fun j hj => ⟨(hg j hj).2.2.2.1, (hg j hj).2.2.2.2.1⟩) hF
        clear hF hST hT he
        generalize (kpF (endF (fun j => (x j).kid) n 13) (x i).kid.toNat (i + 1)).map Int.ofNat = R at *
        go_enter Try.func15, Try.ntmps15
        go_wp2_with (first | (go_at_call 11; refine HT.out.mono ?_; rintro e w1 ⟨rfl, hE⟩; have HE := hide (Ext.trans HE0.out hE); have c0 := (Hs.out.of_all HE.out).c0 i hi; clear hE) | (go_at_call 21; refine (HIn.out _).mono ?_; rintro e w2 ⟨rfl, hw⟩; obtain rfl := hw.symm) | (go_at_call 26; refine (HMd.out _).mono ?_; rintro e w2 ⟨rfl, hw⟩; obtain rfl := hw.symm) | (go_at_call 32; refine (HKd.out _ HE.out).mono ?_; rintro e w2 ⟨v, rfl, hv, hE2⟩; have HV := hide hv; have HE2 := hide hE2; clear hv hE2))
        go_ret2
        exact ⟨v, rfl, owns_base HV.out (Below.size HE.out), Ext.trans HE.out HE2.out⟩
    · have hq : (decide ((0 : Int) ≤ z) && decide (z ≤ (n : Int) - 1)) = false := by simp; omega
      have HIn : Hid (∀ w, Calls Try.prog 21 #[.int .i64 z, .int .i64 0, .int .i64 ((n : Int) - 1)] w fun e w' => e = .returned (.bool false) ∧ w' = w) := fun w => by have := l1In_any z 0 ((n : Int) - 1) w; rw [hq] at this; exact this
      have hm : mdB x n z = false := by
        unfold mdB hasB
        rw [htr, show (decide (0 ≤ z) && decide (z < (n : Int))) = false by simp; omega]
        rfl
      have hl : mdL x n z = [] := by unfold mdL; rw [hm]; rfl
      rw [hm, hl]
      go_enter Try.func15, Try.ntmps15
      go_wp2_with (first | (go_at_call 11; refine HT.out.mono ?_; rintro e w1 ⟨rfl, hE⟩; have HE := hide hE; clear hE) | (go_at_call 21; refine (HIn.out _).mono ?_; rintro e w2 ⟨rfl, hw⟩; obtain rfl := hw.symm))
      go_ret2
      exact ⟨_, rfl, owns_keep' HO.out HE.out, Ext.trans HE0.out HE.out⟩

end Go.Proofs.Ytifokecmmnineab
