/- Walks: the program's Children. Walks: the model's Part. -/
import Derived.Test.YtmcdikbcmikihaaDoorTq10
import Derived.Test.YtmcdikbcmikihaaDoorChecked
import Derived.Test.YtmcdikbcmikihaaDoorTq01
namespace Go.Proofs.YtmcdikbcmikihaaDoor

section
set_option linter.unusedVariables false
set_option linter.unusedSimpArgs false

open Go.RowKit Go.Shelf

attribute [local go_sem] Oper.semAt_some

/-- The places at which one is around. -/
def onesL {n : Nat} (pre : List (Pl n)) : List Int := (pre.filter (fun p => p.1.2 == 1)).map (fun p => (p.1.1 : Int))

theorem onesL_yes {n : Nat} (pre : List (Pl n)) (p : Pl n) (h : p.1.2 = 1) : onesL (pre ++ [p]) = onesL pre ++ [(p.1.1 : Int)] := by
  unfold onesL
  rw [List.filter_append, List.filter_cons_of_pos (by simp [h])]
  simp

theorem onesL_no {n : Nat} (pre : List (Pl n)) (p : Pl n) (h : ¬ p.1.2 = 1) : onesL (pre ++ [p]) = onesL pre := by
  unfold onesL
  rw [List.filter_append, List.filter_cons_of_neg (by simp [h])]
  simp

theorem onesL_len {n : Nat} (pre : List (Pl n)) : (onesL pre).length ≤ pre.length := by
  unfold onesL
  rw [List.length_map]
  exact List.length_filter_le _ _

theorem onesL_map {n : Nat} (xs : List (Pl n)) : onesL xs = (((xs.map (·.1)).filter (fun p => p.2 == 1)).map (·.1)).map Int.ofNat := by
  unfold onesL
  induction xs with
  | nil => rfl
  | cons p xs ih =>
    by_cases h : p.1.2 = 1
    · rw [List.filter_cons_of_pos (by simp [h]), List.map_cons, List.map_cons, List.filter_cons_of_pos (by simp [h]), List.map_cons, List.map_cons, ih]
      rfl
    · rw [List.filter_cons_of_neg (by simp [h]), List.map_cons, List.filter_cons_of_neg (by simp [h]), ih]

theorem owns_keep {w w' : World} {B B' e n : Nat} {v : Value} {xs : List Value} (ho : w.ownsRow B e 1 v n xs) (hB : B' ≤ B) (h : ∀ g, v.ownBlock = some g → w'.heap[g]? = w.heap[g]?) : w'.ownsRow B' e 1 v n xs := by
  refine ⟨ho.1, ?_⟩
  rcases ho.2 with h0 | ⟨g, cap, cur, rfl, hb, hg, rest⟩
  · exact .inl h0
  · exact .inr ⟨g, cap, cur, rfl, Nat.le_trans hB hb, (h g rfl).trans hg, rest⟩

set_option maxHeartbeats 6400000 in
set_option maxRecDepth 100000 in
theorem implChildren_any (a : Option Addr) (b off n cap : Nat) (x : Nat → It) (z : Int) (w : World) (hs : ISeg w a b off n x) (hn : n ≤ 1048576) (hk : ∀ i, i < n → (x i).kid ≤ 9223372036854775807) :
    Calls Tryd.prog 19 #[.slice a n cap, .int .i64 z] w fun e w' => GivesC w (mdL x n z) (mdB x n z) e w' := by
  have HH := hide (hasItem_any a b off n cap x z w hs hn hk)
  cases hb : hasB x n z
  · have hm : mdB x n z = false := by unfold mdB; rw [hb]; rfl
    have hl : mdL x n z = [] := by unfold mdL; rw [hm]; rfl
    rw [hb] at HH
    rw [hm, hl]
    go_enter Tryd.func19, Tryd.ntmps19
    go_wp2_with (go_at_call 34; refine HH.out.mono ?_; rintro e w1 ⟨rfl, hE⟩; have HE := hide hE; clear hE)
    go_ret2
    exact ⟨_, rfl, World.ownsRow_made (base := w.heap.size) (e := 3) (size := 1) _ #[] 0 (Below.size HE.out) (by simp) rfl, Ext.trans HE.out (Ext.alloc _ _)⟩
  · rw [hb] at HH
    have hb' := hb
    unfold hasB at hb'
    simp only [Bool.and_eq_true, decide_eq_true_eq] at hb'
    obtain ⟨htr, z0, z1⟩ := hb'
    obtain ⟨i, rfl⟩ := Int.eq_ofNat_of_zero_le z0
    have hi : i < n := by omega
    obtain ⟨h1, h300, hg⟩ := tree_good htr
    obtain ⟨gt0, gt1, -⟩ := hg i hi
    obtain rfl := hs.at' (by omega)
    have ltb : b < w.heap.size := hs.lt (by omega)
    have hM : mdB x n (i : Int) = decide ((x i).tag / 32 % 2 = 1) := by unfold mdB; rw [hb]; simp
    have Hs := hide hs
    have HMd : Hid (∀ w, Calls Tryd.prog 35 #[.int .i64 (x i).tag] w fun e w' => e = .returned (.bool (decide ((x i).tag / 32 % 2 = 1))) ∧ w' = w) := fun w => isMade_any _ w gt0 gt1
    cases hmd : decide ((x i).tag / 32 % 2 = 1)
    · have hl : mdL x n (i : Int) = [] := by unfold mdL; rw [hM, hmd]; rfl
      rw [hM, hl]
      rw [hmd] at HMd ⊢
      clear hs
      go_enter Tryd.func19, Tryd.ntmps19
      go_wp2_with (first | (go_at_call 34; refine HH.out.mono ?_; rintro e w1 ⟨rfl, hE⟩; have HE := hide hE; have c0 := (Hs.out.of_all hE).c0 i hi; clear hE) | (go_at_call 35; refine (HMd.out _).mono ?_; rintro e w2 ⟨rfl, hw⟩; obtain rfl := hw.symm))
      go_ret2
      exact ⟨_, rfl, World.ownsRow_made (base := w.heap.size) (e := 3) (size := 1) _ #[] 0 (Below.size HE.out) (by simp) rfl, Ext.trans HE.out (Ext.alloc _ _)⟩
    · obtain ⟨e, T, he, hie, hen, hT, hST⟩ := tree_part htr hi
      have hL : mdL x n (i : Int) = (kpF (endF (fun j => (x j).kid) n 13) (x i).kid.toNat (i + 1)).map Int.ofNat := by unfold mdL; rw [hM, hmd]; simp
      rw [hM, hL]
      rw [hmd] at HMd ⊢
      have HST := hide hST
      have HT := hide hT
      clear hs hST hT
      obtain ⟨i0, hi0, hz0, hz1, hz2⟩ := info_parts Tryd.info3
      refine (callsIn_wide (n := 9)).1 ?_
      refine callsIn_of_wp_marks Tryd.func19 rfl trivial ?_
      simp only [Tryd.ntmps19, List.size_toArray, List.length_cons, List.length_nil, Nat.reduceAdd, Nat.reduceSub, Array.replicate_succ, Array.replicate_zero, List.push_toArray, List.append_toArray, List.nil_append, List.cons_append]
      gi_wp2_with (first | (gi_at_call 34; refine (callsIn_wide.2 HH.out).mono ?_; rintro e w1 ⟨rfl, hE⟩; have HE := hide hE; have c0 := (Hs.out.of_all hE).c0 i hi; clear hE) | (refine ⟨trivial, ?_⟩; gi_at_call 34; refine (callsIn_wide.2 HH.out).mono ?_; rintro e w1 ⟨rfl, hE⟩; have HE := hide hE; have c0 := (Hs.out.of_all hE).c0 i hi; clear hE) | (gi_at_call 35; refine (callsIn_wide.2 (HMd.out _)).mono ?_; rintro e w2 ⟨rfl, hw⟩; obtain rfl := hw.symm) | (refine ⟨trivial, ?_⟩; gi_at_call 35; refine (callsIn_wide.2 (HMd.out _)).mono ?_; rintro e w2 ⟨rfl, hw⟩; obtain rfl := hw.symm) | (gi_at_call 31; refine (callsIn_wide.2 (below_any _ _ _ _ _)).mono ?_; rintro e w3 ⟨rfl, rfl⟩) | (refine ⟨trivial, ?_⟩; gi_at_call 31; refine (callsIn_wide.2 (below_any _ _ _ _ _)).mono ?_; rintro e w3 ⟨rfl, rfl⟩))
      obtain ⟨V, hV⟩ : ∃ V, ((((w1.alloc (.cells #[] 3)).alloc (.cells #[.slice (some ⟨w1.heap.size, 0, none⟩) 0 0] 36)).alloc (.cells #[.slice (some ⟨b, off, none⟩) n cap] 23)).alloc (.cells #[.int .i64 (i : Int)] 3)) = V := ⟨_, rfl⟩
      have hO0 := ((World.ownsRow_made (base := w1.heap.size) (e := 3) (size := 1) w1 #[] 0 (Nat.le_refl _) (by simp) rfl).alloc (.cells #[.slice (some ⟨w1.heap.size, 0, none⟩) 0 0] 36)).alloc (.cells #[.slice (some ⟨b, off, none⟩) n cap] 23)
      have hO1 := hO0.alloc (.cells #[.int .i64 (i : Int)] 3)
      rw [hV] at hO1
      obtain ⟨B0, B1, B2, B3, hEV, hsz⟩ := box4 w1 [] [.slice (some ⟨w1.heap.size, 0, none⟩) 0 0] [.slice (some ⟨b, off, none⟩) n cap] [.int .i64 (i : Int)] 3 36 23 3 (w1 := V) (by rw [← hV]; exact Ext.refl _)
      have sV : V.heap.size = w1.heap.size + 4 := by rw [← hV]; simp
      have hw1 := Below.size HE.out
      have hEw := Ext.trans HE.out hEV
      rw [hV]
      have hsV := Hs.out.of_all hEw
      have hseq := below1_inO 8 (by omega) n i (w1.heap.size + 1 + 1 + 1) (w1.heap.size + 1 + 1) b off cap (fun i => (x i).kid) V (by omega) hn (by omega) (B3 0 _ rfl).1 (B2 0 _ rfl).1 (fun i hi => hsV.c2 i hi) hk
      have I0 : ChI w w1 (XB (w1.heap.size + 1 + 1 + 1) (w1.heap.size + 1 + 1) b) (fun _ => False) [] V := ⟨⟨_, (B1 0 _ rfl).1, hO1, fun g hg => by
        simp only [Value.ownBlock, Option.some.injEq] at hg
        subst hg
        exact ⟨fun h => h, by rintro (h | h | h) <;> omega, by omega⟩⟩, (B1 0 _ rfl).2, fun k h => h.elim, by omega, hEw⟩
      have HEw := hide hEw
      clear hsV B0 B1 B2 B3 hO0 hO1 hEV hEw
      refine range_ownO (n := 9) (by omega) (gf := 54) (lb := #[.pointer (some ⟨w1.heap.size + 1 + 1 + 1, 0, none⟩), .pointer (some ⟨w1.heap.size + 1 + 1, 0, none⟩)]) rfl (enters_of Tryd.func54 (by kernel_rfl) rfl) (w0 := V) (fun k hk => by rcases hk with h | h | h <;> omega) hseq (Below.refl _ _) (fun _ => rfl)
        (fun O pre W => ChI w w1 (XB (w1.heap.size + 1 + 1 + 1) (w1.heap.size + 1 + 1) b) O (onesL pre) W)
        (fun c O pre W => False)
        (fun s => ChI.ab hw1 _ _) (fun c s O O' A C h _ => h) I0
        (fun p => { tmps := #[.slice (some ⟨b, off, none⟩) n cap, .int .i64 (i : Int), undef, undef, .slice none 0 0, .bool false, .pointer (some ⟨w1.heap.size + 1, 0, none⟩), .int .i64 (p.1.1 : Int), .int .i64 (p.1.2 : Int), .slice (some ⟨b, off, none⟩) n cap, .int .i64 (i : Int), .bool true, .bool false, .bool false, .slice (some ⟨b, off, none⟩) n cap, .int .i64 (i : Int), .pointer (some ⟨b, off + i * 3, none⟩), .pointer (some ⟨b, off + i * 3, none⟩), .int .i64 (x i).tag, .bool true, .bool false, .bool false, undef, .slice (some ⟨w1.heap.size, 0, none⟩) 0 0, .slice (some ⟨b, off, none⟩) n cap, .int .i64 (i : Int), .func (.func 54) #[] #[.pointer (some ⟨w1.heap.size + 1 + 1 + 1, 0, none⟩), .pointer (some ⟨w1.heap.size + 1 + 1, 0, none⟩)], .int .i64 (p.1.1 : Int), .int .i64 (p.1.2 : Int), undef, undef, undef, undef, undef, undef, undef], defers := [] }) ?assign ?body ?done ?stop
      case assign =>
        intro l p W K hK
        simp only [encP]
        gi_wp2
        exact hK
      case body =>
        rintro l O pre ⟨⟨j, r⟩, hj⟩ W hI hOk hW2 hlen
        obtain ⟨⟨v, k1, k2, k3⟩, kf, kO, kB, kE⟩ := hI
        have hol := onesL_len pre
        clear hseq I0
        by_cases hr : r = 1
        · have e1 : ((r : Int) == 1) = true := by simp [hr]
          have HY : Hid (onesL (pre ++ [(⟨(j, r), hj⟩ : Pl n)]) = onesL pre ++ [(j : Int)]) := onesL_yes _ _ hr
          obtain ⟨va, vc, rfl⟩ := owns_slice k2
          have Hr := hide hr
          have Hk1 := hide k1
          clear hr
          gi_wp2_with (gi_at_builtin; refine wpListIn_append_own_at _ rfl _ _ 36 rfl w1.heap.size 3 i0 (.int .i64 0) 1 8 Tryd.underlying36 hi0 hz0 hz1 hz2 rfl (by decide) _ _ _ rfl (k2.alloc _) ⟨W.heap.size, 0, none⟩ 1 1 [.int .i64 (j : Int)] rfl rfl (cell_one_new _ _ _) (iys_one _) (by unfold maxLen; omega) (by omega) (by simp; omega) ?_; intro v' w4 hown' hgrow hnil hat; obtain ⟨va', vc', rfl⟩ := owns_slice hown'; have kb : w4.heap[w1.heap.size + 1]? = W.heap[w1.heap.size + 1]? := (hgrow.block _ (by simp; omega) (fun e => (k3 _ e.symm).2.2 rfl)).trans (Below.heap_alloc _ _ _ (by omega)); have c4 := (World.cell?_of_block (a := ⟨w1.heap.size + 1, 0, none⟩) kb).trans Hk1.out; have f4 := (World.frozen?_of_block (a := ⟨w1.heap.size + 1, 0, none⟩) kb).trans kf)
          have hat' : (Value.slice va' ((onesL pre).length + 1) vc').ownBlock = (Value.slice va (onesL pre).length vc).ownBlock ∨ (Value.slice va' ((onesL pre).length + 1) vc').ownBlock = some (W.alloc (.cells #[.int .i64 (j : Int)] 3)).heap.size := hat
          have hsz4 : W.heap.size ≤ w4.heap.size := by have := hgrow.size; simp at this; omega
          have hkeep : ∀ k, (O k ∨ XB (w1.heap.size + 1 + 1 + 1) (w1.heap.size + 1 + 1) b k) → k < W.heap.size → w4.heap[k]? = W.heap[k]? := fun k hk hl => (hgrow.block k (by simp; omega) (fun e => by
            have := k3 k e.symm
            rcases hk with h | h
            · exact this.1 h
            · exact this.2.1 h)).trans (Below.heap_alloc _ _ _ hl)
          have hd1 : ∀ k, (O k ∨ XB (w1.heap.size + 1 + 1 + 1) (w1.heap.size + 1 + 1) b k) → k ≠ w1.heap.size + 1 := fun k hk e => by
            rcases hk with h | h | h | h
            · have := kO k h; omega
            · omega
            · omega
            · omega
          have hnew : ∀ g, (Value.slice va' ((onesL pre).length + 1) vc').ownBlock = some g → ¬ O g ∧ ¬ XB (w1.heap.size + 1 + 1 + 1) (w1.heap.size + 1 + 1) b g ∧ g ≠ w1.heap.size + 1 := fun g hg => by
            rcases hat' with h | h
            · exact k3 g (by rw [← h]; exact hg)
            · rw [h] at hg
              simp only [Option.some.injEq] at hg
              subst hg
              refine ⟨fun ho => by have := (hOk _ ho).2; simp at this; omega, ?_, by simp; omega⟩
              rintro (h | h | h) <;> simp at h <;> omega
          refine ⟨⟨hgrow.os, hgrow.tape, hgrow.output, by simpa [World.setCell] using hsz4, fun k hk hl => (Below.heap_setCell _ _ _ _ (hd1 k hk)).trans (hkeep k hk hl)⟩, ?_⟩
          show ChI w w1 _ O (onesL (pre ++ [(⟨(j, r), hj⟩ : Pl n)])) _
          rw [HY.out]
          refine ⟨⟨.slice va' ((onesL pre).length + 1) vc', World.cell?_setCell_same _ _ _ c4, ?_, hnew⟩, by rw [World.frozen?_setCell]; exact f4, kO, by simp [World.setCell]; omega, ?_⟩
          · have h4 : w4.ownsRow w1.heap.size 3 1 (.slice va' ((onesL pre).length + 1) vc') (onesL pre ++ [(j : Int)]).length (iys (onesL pre ++ [(j : Int)])) := by simpa [iys] using hown'
            exact owns_keep h4 (Nat.le_refl _) (fun g hg => Below.heap_setCell _ _ _ _ (hnew g hg).2.2)
          · exact below_touch (Below.trans kE (((Below.refl _ W).alloc (Nat.le_trans hw1 (by omega)) _).grown hgrow (by simp; omega) (fun g hg => by have := (k2.lt g hg).1; omega))) ((Touch.refl (w1.heap.size + 1) w4).set 0 _) (by omega)
        · have e1 : ((r : Int) == 1) = false := by simp; omega
          have HY : Hid (onesL (pre ++ [(⟨(j, r), hj⟩ : Pl n)]) = onesL pre) := onesL_no _ _ hr
          have HI : Hid (ChI w w1 (XB (w1.heap.size + 1 + 1 + 1) (w1.heap.size + 1 + 1) b) O (onesL pre) W) := ⟨⟨v, k1, k2, k3⟩, kf, kO, kB, kE⟩
          clear k1 k2 k3 kf kO kB kE
          gi_wp2
          refine ⟨RdO.refl _ _ _, ?_⟩
          show ChI w w1 _ O (onesL (pre ++ [(⟨(j, r), hj⟩ : Pl n)])) _
          rw [HY.out]
          exact HI.out
      case done =>
        rintro O xs W hS ⟨⟨v, k1, k2, k3⟩, kf, kO, kB, kE⟩ hOd hlt hD
        obtain ⟨va, vc, rfl⟩ := owns_slice k2
        have HR : Hid (onesL xs = (kpF (endF (fun j => (x j).kid) n 13) (x i).kid.toNat (i + 1)).map Int.ofNat) := by
          show _ = _
          rw [onesL_map, hS, HT.out, List.filter_cons_of_neg (by simp), HST.out.kids]
        have K2 := hide k2
        have K3 := hide k3
        have KE := hide kE
        clear k2 k3 kE hseq I0
        gi_wp2
        refine ⟨by simp, .inl ⟨_, _, rfl, run_takeDeferred (ds := []) hD, ?_⟩⟩
        refine ⟨_, results_tmp2 rfl _ _ _, .slice va (onesL xs).length vc, rfl, ?_, ?_⟩
        · rw [← HR.out]
          exact owns_keep K2.out hw1 (fun g hg => World.putObj_heap_other (fun e => (K3.out g hg).1 (by rw [e]; exact hOd)))
        · exact Below.trans KE.out ((putObj_below V.heap.size _ V.heap.size _ (Nat.le_refl _)).mono (by omega))
      case stop => exact fun c O pre W _ h => h.elim
end

section
set_option linter.unusedVariables false
set_option linter.unusedSimpArgs false

open Go.RowKit

theorem ownsRow_keep {w w' : World} {B B' e s n : Nat} {v : Value} {xs : List Value} (ho : w.ownsRow B e s v n xs) (hB : B' ≤ B) (h : ∀ g, v.ownBlock = some g → w'.heap[g]? = w.heap[g]?) : w'.ownsRow B' e s v n xs := by
  refine ⟨ho.1, ?_⟩
  rcases ho.2 with h0 | ⟨g, cap, cur, rfl, hb, hg, rest⟩
  · exact .inl h0
  · exact .inr ⟨g, cap, cur, rfl, Nat.le_trans hB hb, (h g rfl).trans hg, rest⟩

theorem BOwn.of_blk {w w' : World} {a : Option Addr} {b o n : Nat} {f : Nat → Int} (h : BOwn w a b o n f) (hb : 0 < n → w'.heap[b]? = w.heap[b]?) : BOwn w' a b o n f :=
  ⟨⟨h.at', fun i hi => (World.cell?_of_block (a := ⟨b, o + i, none⟩) (hb (by omega))).trans (h.cell i hi)⟩, fun i hi => (World.frozen?_of_block (a := ⟨b, o + i, none⟩) (hb (by omega))).trans (h.free i hi)⟩

theorem IAcc.keep {B B' : Nat} {W w' : World} {v : Value} {m : Nat} {y : Nat → It} (h : IAcc B W v m y) (hB : B' ≤ B) (h1 : ∀ g, v.ownBlock = some g → w'.heap[g]? = W.heap[g]?) (h2 : ∀ i, i < m → 0 < (y i).len → w'.heap[(y i).blk]? = W.heap[(y i).blk]?) : IAcc B' w' v m y :=
  ⟨ownsRow_keep h.row hB h1, fun i hi => (h.body i hi).of_blk (h2 i hi), fun i hi h0 => ⟨(h.away i hi h0).1, Nat.le_trans hB (h.away i hi h0).2⟩, h.apart⟩

theorem IAcc.base {B B' : Nat} {W : World} {v : Value} {m : Nat} {y : Nat → It} (h : IAcc B W v m y) (hB : B' ≤ B) : IAcc B' W v m y := h.keep hB (fun _ _ => rfl) (fun _ _ _ => rfl)

/-- How many items the part has. -/
def ptM (x : Nat → It) (n : Nat) (z : Int) : Nat := if hasB x n z then (endF (fun j => (x j).kid) n 13 z.toNat - z).toNat else 0

/-- A new list of the m items from i on, and ok. -/
def GivesP (w : World) (x : Nat → It) (i m : Nat) (ok : Bool) (e : Ending) (w' : World) : Prop := ∃ v y, e = .returned (.tuple #[v, .bool ok]) ∧ IAcc w.heap.size w' v m y ∧ SameI y x i m ∧ Ext w w'

theorem ptM_of {x : Nat → It} {n i e : Nat} (hb : hasB x n (i : Int) = true) (he : endF (fun j => (x j).kid) n 13 i = (e : Int)) (hie : i < e) : ptM x n (i : Int) = e - i := by
  unfold ptM
  rw [hb, if_pos rfl, show ((i : Int)).toNat = i from rfl, he]
  omega
end

end Go.Proofs.YtmcdikbcmikihaaDoor
