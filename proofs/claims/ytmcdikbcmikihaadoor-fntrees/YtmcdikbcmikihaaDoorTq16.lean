/- Walks: the program's Part. -/
import Derived.Test.YtmcdikbcmikihaaDoorTq15
namespace Go.Proofs.YtmcdikbcmikihaaDoor

section
set_option linter.unusedVariables false
set_option linter.unusedSimpArgs false

open Go.RowKit Go.Shelf

attribute [local go_sem] Oper.semAt_some

/-- Items made of those at the places of L. -/
def SameP (y : Nat → It) (x : Nat → It) (L : List Nat) : Prop := ∀ j, j < L.length → (y j).tag = (x (L.getD j 0)).tag ∧ (y j).kid = (x (L.getD j 0)).kid ∧ (y j).len = (x (L.getD j 0)).len ∧ (y j).f = (x (L.getD j 0)).f

theorem SameP.step {y x : Nat → It} {L : List Nat} {p : Nat} {t : It} (h : SameP y x L) (h1 : t.tag = (x p).tag) (h2 : t.kid = (x p).kid) (h3 : t.len = (x p).len) (h4 : t.f = (x p).f) : SameP (updI y L.length t) x (L ++ [p]) := fun j hj => by
  rw [List.length_append, List.length_singleton] at hj
  by_cases c : j = L.length
  · subst c
    rw [updI_same, List.getD_eq_getElem?_getD, List.getElem?_append_right (Nat.le_refl _), Nat.sub_self]
    exact ⟨h1, h2, h3, h4⟩
  · rw [updI_other _ _ c, List.getD_eq_getElem?_getD, List.getElem?_append_left (by omega), ← List.getD_eq_getElem?_getD]
    exact h j (by omega)

theorem SameP.range {y x : Nat → It} {L : List Nat} {i m : Nat} (h : SameP y x L) (hL : L = List.range' i m) : SameI y x i m := fun j hj => by
  have := h j (by rw [hL, List.length_range']; exact hj)
  rw [hL, List.getD_eq_getElem?_getD, List.getElem?_range' hj, Option.getD_some, Nat.one_mul] at this
  exact this

/-- What Part's own memory holds between two rounds. -/
structure PtI (u w1 : World) (x : Nat → It) (X O : Nat → Prop) (L : List Nat) (W : World) : Prop where
  it : ∃ v y, W.cell? ⟨w1.heap.size + 1, 0, none⟩ = some v ∧ IAcc w1.heap.size W v L.length y ∧ SameP y x L ∧ (∀ g, v.ownBlock = some g → ¬ O g ∧ ¬ X g ∧ g ≠ w1.heap.size + 1) ∧ (∀ j, j < L.length → 0 < (y j).len → ¬ O (y j).blk ∧ ¬ X (y j).blk ∧ (y j).blk ≠ w1.heap.size + 1)
  fz : W.frozen? ⟨w1.heap.size + 1, 0, none⟩ = false
  ours : ∀ k, O k → w1.heap.size + 4 ≤ k
  big : w1.heap.size + 4 ≤ W.heap.size
  ext : Ext u W

theorem PtI.ab {u w1 : World} (hw : u.heap.size ≤ w1.heap.size) (x : Nat → It) (X : Nat → Prop) (L : List Nat) : AbO (fun O W => PtI u w1 x X O L W) := by
  rintro O O' A C ⟨⟨v, y, h1, h2, hS, h3, hb3⟩, h4, h5, h6, h7⟩ hs
  have hb : C.heap[w1.heap.size + 1]? = A.heap[w1.heap.size + 1]? := hs.same _ (by omega) (fun h => by have := h5 _ h; omega)
  have hlt : ∀ g, v.ownBlock = some g → g < A.heap.size := fun g hg => (h2.row.lt g hg).2
  have hbl : ∀ j, j < L.length → 0 < (y j).len → (y j).blk < A.heap.size := fun j hj h0 => (h2.body j hj).lt h0
  refine ⟨⟨v, y, ?_, ?_, hS, fun g hg => ⟨fun h => ?_, (h3 g hg).2⟩, fun j hj h0 => ⟨fun h => ?_, (hb3 j hj h0).2⟩⟩, ?_, fun k hk => ?_, Nat.le_trans h6 hs.size, ⟨hs.os.trans h7.os, hs.tape.trans h7.tape, hs.output.trans h7.output, Nat.le_trans h7.size hs.size, fun k hk => (hs.same k (by omega) (fun h => by have := h5 _ h; omega)).trans (h7.block k hk)⟩⟩
  · rw [World.cell?_of_block (a := ⟨w1.heap.size + 1, 0, none⟩) hb]; exact h1
  · exact h2.keep (Nat.le_refl _) (fun g hg => hs.same g (hlt g hg) (h3 g hg).1) (fun j hj h0 => hs.same _ (hbl j hj h0) (hb3 j hj h0).1)
  · rcases (hs.own g).1 h with h | h
    · exact (h3 g hg).1 h
    · have := hlt g hg; omega
  · rcases (hs.own _).1 h with h | h
    · exact (hb3 j hj h0).1 h
    · have := hbl j hj h0; omega
  · rw [World.frozen?_of_block (a := ⟨w1.heap.size + 1, 0, none⟩) hb]; exact h4
  · rcases (hs.own k).1 hk with h | h
    · exact h5 k h
    · omega

theorem ownsRow_slice {W : World} {B e s m : Nat} {v : Value} {xs : List Value} (h : W.ownsRow B e s v m xs) : ∃ a cap, v = .slice a m cap := by
  rcases h.2 with ⟨rfl, rfl⟩ | ⟨g, cap, cur, rfl, _⟩
  · exact ⟨_, _, rfl⟩
  · exact ⟨_, _, rfl⟩

theorem itW_cells (w : World) (B : Nat) (hB : w.heap.size = B) (tag kid : Int) (a : Option Addr) (len cap T g o : Nat) (f : Nat → Int) : ∀ j u, (itW ⟨tag, kid, a, g, o, len, cap, f⟩)[j]? = some u → (w.alloc (.cells #[.int .i64 tag, .slice a len cap, .int .i64 kid] T)).cell? ((⟨B, 0, none⟩ : Addr).add j) = some u := by
  intro j u hj
  subst hB
  rcases j with _ | _ | _ | j
  · simp [itW] at hj; subst hj; simp [Addr.add]
  · simp [itW] at hj; subst hj; simp [Addr.add]
  · simp [itW] at hj; subst hj; simp [Addr.add]
  · simp [itW] at hj

/-- The places of rounds. -/
def plcL {n : Nat} (pre : List (Pl n)) : List Nat := pre.map (fun p => p.1.1)

theorem plcL_add {n : Nat} (pre : List (Pl n)) (p : Pl n) : plcL (pre ++ [p]) = plcL pre ++ [p.1.1] := by unfold plcL; rw [List.map_append]; rfl

theorem plcL_len {n : Nat} (pre : List (Pl n)) : (plcL pre).length = pre.length := by unfold plcL; rw [List.length_map]

theorem plcL_map {n : Nat} (xs : List (Pl n)) : plcL xs = (xs.map (·.1)).map (·.1) := by unfold plcL; rw [List.map_map]; rfl

set_option maxHeartbeats 6400000 in
set_option maxRecDepth 100000 in
theorem implPart_any (a : Option Addr) (b off n cap : Nat) (x : Nat → It) (z : Int) (w : World) (hs : ISeg w a b off n x) (hn : n ≤ 1048576) (hk : ∀ i, i < n → (x i).kid ≤ 9223372036854775807) (hl : ∀ i, i < n → (x i).len ≤ 1048576) :
    Calls Tryd.prog 20 #[.slice a n cap, .int .i64 z] w fun e w' => GivesP w x z.toNat (ptM x n z) (hasB x n z) e w' := by
  have HH : Hid (∀ W, Ext w W → Calls Tryd.prog 34 #[.slice a n cap, .int .i64 z] W fun e w' => e = .returned (.bool (hasB x n z)) ∧ Ext W w') := fun W h => hasItem_any a b off n cap x z W (hs.of_all h) hn hk
  cases hb : hasB x n z
  · have hl0 : ptM x n z = 0 := by unfold ptM; rw [hb]; rfl
    rw [hb] at HH
    rw [hl0]
    clear hk hl hs
    go_enter Tryd.func20, Tryd.ntmps20
    go_wp2_with (go_at_call 34; refine (HH.out _ (Ext.alloc _ _)).mono ?_; rintro e w1 ⟨rfl, hE⟩; have HE := hide (Ext.trans (Ext.alloc _ _) hE); clear hE)
    go_ret2
    exact ⟨_, _, rfl, (IAcc.nil _).base (Below.size HE.out), fun j hj => absurd hj (by omega), Ext.trans HE.out (Ext.alloc _ _)⟩
  · rw [hb] at HH
    have hb' := hb
    unfold hasB at hb'
    simp only [Bool.and_eq_true, decide_eq_true_eq] at hb'
    obtain ⟨htr, z0, z1⟩ := hb'
    obtain ⟨i, rfl⟩ := Int.eq_ofNat_of_zero_le z0
    have hi : i < n := by omega
    obtain ⟨h1, h300, hg⟩ := tree_good htr
    obtain rfl := hs.at' (by omega)
    have ltb : b < w.heap.size := hs.lt (by omega)
    obtain ⟨e, T, he, hie, hen, hT, hST⟩ := tree_part htr hi
    rw [ptM_of hb he hie, show ((i : Int)).toNat = i from rfl]
    have Hs := hide hs
    have Hl := hide hl
    have Hk := hide hk
    have HST := hide hST
    have HT := hide hT
    clear hs hST hT hl hk hg he
    obtain ⟨i0, hi0, hz0, hz1, hz2⟩ := info_parts Tryd.infoIt
    obtain ⟨u, hu⟩ : ∃ u, w.alloc (.cells #[.slice (some ⟨b, off, none⟩) n cap] 23) = u := ⟨_, rfl⟩
    have hEu : Ext w u := by rw [← hu]; exact Ext.alloc _ _
    have hsu : u.heap.size = w.heap.size + 1 := by rw [← hu]; simp
    have cu : u.cell? ⟨w.heap.size, 0, none⟩ = some (.slice (some ⟨b, off, none⟩) n cap) := by rw [← hu]; exact World.cell?_alloc_new _ _ _ _
    have HEu := hide hEu
    refine (callsIn_wide (n := 9)).1 ?_
    refine callsIn_of_wp_marks Tryd.func20 rfl trivial ?_
    simp only [Tryd.ntmps20, List.size_toArray, List.length_cons, List.length_nil, Nat.reduceAdd, Nat.reduceSub, Array.replicate_succ, Array.replicate_zero, List.push_toArray, List.append_toArray, List.nil_append, List.cons_append]
    gi_wp2_with (first | (gi_at_call 34; refine (callsIn_wide.2 (HH.out _ HEu.out)).mono ?_; rintro e' w1 ⟨rfl, hE⟩; have HE := hide hE; have c1 := (Below.cell hE (p := ⟨w.heap.size, 0, none⟩) (by simp; omega)).trans cu; have c2 := (Below.cell (Ext.trans (Ext.alloc w1 (.cells #[] 55)) (Ext.alloc _ (.cells #[.slice (some ⟨w1.heap.size, 0, none⟩) 0 0] 23))) (p := ⟨w.heap.size, 0, none⟩) (by have := Below.size HE.out; simp; omega)).trans c1; clear hE) | (refine ⟨trivial, ?_⟩; gi_at_call 34; refine (callsIn_wide.2 (HH.out _ HEu.out)).mono ?_; rintro e' w1 ⟨rfl, hE⟩; have HE := hide hE; have c1 := (Below.cell hE (p := ⟨w.heap.size, 0, none⟩) (by simp; omega)).trans cu; have c2 := (Below.cell (Ext.trans (Ext.alloc w1 (.cells #[] 55)) (Ext.alloc _ (.cells #[.slice (some ⟨w1.heap.size, 0, none⟩) 0 0] 23))) (p := ⟨w.heap.size, 0, none⟩) (by have := Below.size HE.out; simp; omega)).trans c1; clear hE) | (gi_at_call 31; refine (callsIn_wide.2 (below_any _ _ _ _ _)).mono ?_; rintro e' w3 ⟨rfl, rfl⟩) | (refine ⟨trivial, ?_⟩; gi_at_call 31; refine (callsIn_wide.2 (below_any _ _ _ _ _)).mono ?_; rintro e' w3 ⟨rfl, rfl⟩))
    obtain ⟨V, hV⟩ : ∃ V, ((((w1.alloc (.cells #[] 55)).alloc (.cells #[.slice (some ⟨w1.heap.size, 0, none⟩) 0 0] 23)).alloc (.cells #[.slice (some ⟨b, off, none⟩) n cap] 23)).alloc (.cells #[.int .i64 (i : Int)] 3)) = V := ⟨_, rfl⟩
    have hA1 : IAcc w1.heap.size V (.slice (some ⟨w1.heap.size, 0, none⟩) 0 0) 0 (fun _ => ⟨0, 0, none, 0, 0, 0, 0, fun _ => 0⟩) := by rw [← hV]; exact (IAcc.nil w1).of_all (Ext.trans (Ext.trans (Ext.alloc _ _) (Ext.alloc _ _)) (Ext.alloc _ _))
    obtain ⟨B0, B1, B2, B3, hEV, hsz⟩ := box4 w1 [] [.slice (some ⟨w1.heap.size, 0, none⟩) 0 0] [.slice (some ⟨b, off, none⟩) n cap] [.int .i64 (i : Int)] 55 23 23 3 (w1 := V) (by rw [← hV]; exact Ext.refl _)
    have sV : V.heap.size = w1.heap.size + 4 := by rw [← hV]; simp
    have hw1 : u.heap.size ≤ w1.heap.size := Below.size HE.out
    have hEw := Ext.trans HE.out hEV
    rw [hV]
    have hsV := Hs.out.of_all (Ext.trans HEu.out hEw)
    have hseq := below1_inO 8 (by omega) n i (w1.heap.size + 1 + 1 + 1) (w1.heap.size + 1 + 1) b off cap (fun i => (x i).kid) V (by omega) hn (by omega) (B3 0 _ rfl).1 (B2 0 _ rfl).1 (fun i hi => hsV.c2 i hi) Hk.out
    have I0 : PtI u w1 x (XB (w1.heap.size + 1 + 1 + 1) (w1.heap.size + 1 + 1) b) (fun _ => False) [] V := ⟨⟨_, _, (B1 0 _ rfl).1, hA1, fun j hj => absurd hj (Nat.not_lt_zero _), fun g hg => by
      simp only [Value.ownBlock, Option.some.injEq] at hg
      subst hg
      exact ⟨fun h => h, by rintro (h | h | h) <;> omega, by omega⟩, fun j hj => absurd hj (Nat.not_lt_zero _)⟩, (B1 0 _ rfl).2, fun k h => h.elim, by omega, hEw⟩
    have HEw := hide hEw
    have Hu := hide hu
    have HV := hide hV
    clear hsV B0 B1 B2 B3 hA1 hEV hEw hu hV c1 c2
    refine range_ownO (n := 9) (by omega) (gf := 54) (lb := #[.pointer (some ⟨w1.heap.size + 1 + 1 + 1, 0, none⟩), .pointer (some ⟨w1.heap.size + 1 + 1, 0, none⟩)]) rfl (enters_of Tryd.func54 (by kernel_rfl) rfl) (w0 := V) (fun k hk => by rcases hk with h | h | h <;> omega) hseq (Below.refl _ _) (fun _ => rfl)
      (fun O pre W => PtI u w1 x (XB (w1.heap.size + 1 + 1 + 1) (w1.heap.size + 1 + 1) b) O (plcL pre) W)
      (fun c O pre W => False)
      (fun s => PtI.ab hw1 _ _ _) (fun c s O O' A C h _ => h) I0
      (fun p => { tmps := #[.slice (some ⟨b, off, none⟩) n cap, .int .i64 (i : Int), .pointer (some ⟨w.heap.size, 0, none⟩), undef, .slice none 0 0, .bool false, .pointer (some ⟨w1.heap.size + 1, 0, none⟩), .int .i64 (p.1.1 : Int), undef, .slice (some ⟨b, off, none⟩) n cap, .int .i64 (i : Int), .bool true, .bool false, undef, .slice (some ⟨w1.heap.size, 0, none⟩) 0 0, .slice (some ⟨b, off, none⟩) n cap, .int .i64 (i : Int), .func (.func 54) #[] #[.pointer (some ⟨w1.heap.size + 1 + 1 + 1, 0, none⟩), .pointer (some ⟨w1.heap.size + 1 + 1, 0, none⟩)], .int .i64 (p.1.1 : Int), .int .i64 (p.1.2 : Int), undef, undef, undef, undef, undef, undef, undef, undef, undef, undef, undef, undef, undef], defers := [] }) ?assign ?body ?done ?stop
    case assign =>
      intro l p W K hK
      simp only [encP]
      gi_wp2
      exact hK
    case body =>
      rintro l O pre ⟨⟨j, r⟩, hj⟩ W hI hOk hW2 hlen
      obtain ⟨⟨v, y, k1, k2, kS, k3, k4⟩, kf, kO, kB, kE⟩ := hI
      obtain ⟨va, vc, rfl⟩ := ownsRow_slice k2.row
      have hpl := plcL_len pre
      have hjn : j < n := hj
      clear hseq I0
      have hsW := Hs.out.of_all (Ext.trans HEu.out kE)
      have c0 := hsW.c0 j hjn
      have c1 := hsW.c1 j hjn
      have c2 := hsW.c2 j hjn
      have hbb := hsW.body j hjn
      have hll := Hl.out j hjn
      have cL := (Below.cell kE (p := ⟨w.heap.size, 0, none⟩) (by simp; omega)).trans cu
      have hji : (j : Int) < (n : Int) := by omega
      have HBd := hide hbb
      clear hsW hbb
      have HCl := hide (fun W' (h : Ext W W') => clone_any (x j).ad (x j).blk (x j).off (x j).len (x j).cap (x j).f W' (HBd.out.of_all h) (by omega))
      clear HBd
      obtain ⟨t, ht⟩ : ∃ t, t = x j := ⟨_, rfl⟩
      rw [← ht] at c0 c1 c2 HCl hll
      have Ht := hide ht
      clear ht
      obtain ⟨tag, kid, ad, blk, toff, len, tcap, f⟩ := t
      simp only at c0 c1 c2 HCl hll
      have HT2 : Hid (tag = (x j).tag ∧ kid = (x j).kid ∧ len = (x j).len ∧ f = (x j).f) := by
        rw [← Ht.out]
        exact ⟨rfl, rfl, rfl, rfl⟩
      clear Ht
      have K2 := hide k2
      have KS := hide kS
      have K3 := hide k3
      have K4 := hide k4
      have KE := hide kE
      have KO := hide kO
      have HOk := hide hOk
      have K1 := hide k1
      have Kf := hide kf
      have Hpl := hide hpl
      clear k2 kS k3 k4 kE kO hOk k1 kf hpl
      have hne : ¬ w1.heap.size + 1 = W.heap.size := by omega
      gi_wp2_with fail
      refine ⟨trivial, ?_⟩
      refine (CallsIn.inRound l (callsIn_wide.2 (HCl.out _ (Ext.alloc _ _)))).mono ?_
      rintro e' w5 ⟨v5, rfl, hO5, hE5⟩
      obtain ⟨ya, yg, yc, rfl, hyg, hyn, hyc, hyB⟩ := owns_seg hO5
      have HB5 := hide hyB
      have q0 := (Below.cell hE5 (p := ⟨W.heap.size, 0, none⟩) (by simp)).trans (World.cell?_alloc_new _ _ _ _)
      have q1 := (Below.cell hE5 (p := ⟨W.heap.size, 1, none⟩) (by simp)).trans (World.cell?_alloc_new _ _ _ _)
      have q2 := (Below.cell hE5 (p := ⟨W.heap.size, 2, none⟩) (by simp)).trans (World.cell?_alloc_new _ _ _ _)
      have q9 : w5.frozen? ⟨W.heap.size, 1, none⟩ = false := (Below.frozen hE5 (p := ⟨W.heap.size, 1, none⟩) (by simp)).trans (by simp)
      have s6 : (w5.setCell ⟨W.heap.size, 1, none⟩ (.slice ya len yc)).cell? ⟨w1.heap.size + 1, 0, none⟩ = some (.slice va (plcL pre).length vc) := (World.cell?_of_block (a := ⟨w1.heap.size + 1, 0, none⟩) (Below.heap_setCell _ _ _ _ (by simp; omega))).trans ((Below.cell (Ext.trans (Ext.alloc _ _) hE5) (p := ⟨w1.heap.size + 1, 0, none⟩) (by simp; omega)).trans K1.out)
      have HA6 : Hid (IAcc w1.heap.size (w5.setCell ⟨W.heap.size, 1, none⟩ (.slice ya len yc)) (.slice va (plcL pre).length vc) (plcL pre).length y) := hide (K2.out.keep (Nat.le_refl _) (fun g hg => by have hlt := (K2.out.row.lt g hg).2; rw [Below.heap_setCell _ _ _ _ (by simp; omega)]; exact Below.block (Ext.trans (Ext.alloc _ _) hE5) g hlt) (fun q hq h0 => by have hlt := (K2.out.body q hq).lt h0; rw [Below.heap_setCell _ _ _ _ (by simp; omega)]; exact Below.block (Ext.trans (Ext.alloc _ _) hE5) _ hlt))
      have hyg2 : W.heap.size + 1 ≤ yg := by simpa using hyg
      have E5 := hide hE5
      clear hE5 hyB hO5 hyg
      gi_wp2_with (gi_at_builtin; refine Hid.out ?_)
      refine hide ?_
      refine wpListIn_append_own_at _ rfl _ _ 23 rfl w1.heap.size 55 i0 (.agg #[.int .i64 0, .slice none 0 0, .int .i64 0]) 3 40 Tryd.underlying23 hi0 hz0 hz1 hz2 rfl (by decide) _ _ _ rfl (ownsRow_ext HA6.out.row (Ext.alloc _ _)) ⟨w5.heap.size, 0, none⟩ 1 1 (itW ⟨tag, kid, ya, yg, 0, len, yc, f⟩) rfl rfl (itW_cells (w5.setCell ⟨W.heap.size, 1, none⟩ (.slice ya len yc)) _ (by simp [World.setCell]) _ _ _ _ _ _ _ _ _) (itW_one _) (by have := Hpl.out; unfold maxLen; omega) (by have := Hpl.out; omega) (by have := Below.size E5.out; simp [World.setCell] at this ⊢; omega) ?_
      intro v' w9 hown' hgrow hnil hat
      obtain ⟨va', vc', rfl⟩ := ownsRow_slice hown'
      have hsz5 : W.heap.size + 1 ≤ w5.heap.size := by have := Below.size E5.out; simpa using this
      have hblk : ∀ k, k < W.heap.size → (Value.slice va (plcL pre).length vc).ownBlock ≠ some k → w9.heap[k]? = W.heap[k]? := fun k hk hn =>
        (hgrow.block k (by simp [World.setCell]; omega) (fun e => hn e.symm)).trans ((Below.heap_alloc _ _ _ (by simp [World.setCell]; omega)).trans ((Below.heap_setCell _ _ _ _ (by simp; omega)).trans (Below.block (Ext.trans (Ext.alloc _ _) E5.out) k hk)))
      have kb := hblk (w1.heap.size + 1) (by omega) (fun e => (K3.out _ e).2.2 rfl)
      have c9 := (World.cell?_of_block (a := ⟨w1.heap.size + 1, 0, none⟩) kb).trans K1.out
      have f9 := (World.frozen?_of_block (a := ⟨w1.heap.size + 1, 0, none⟩) kb).trans Kf.out
      have hbT : BOwn ((w5.setCell ⟨W.heap.size, 1, none⟩ (.slice ya len yc)).alloc (.cells #[.int .i64 tag, .slice ya len yc, .int .i64 kid] 55)) ya yg 0 len f := (HB5.out.of_blk (fun _ => Below.heap_setCell _ _ _ _ (by simp; omega))).of_all (Ext.alloc _ _)
      have hstep := HA6.out.step (t := ⟨tag, kid, ya, yg, 0, len, yc, f⟩) (Ext.alloc _ (.cells #[.int .i64 tag, .slice ya len yc, .int .i64 kid] 55)) hbT (fun _ => by show w1.heap.size ≤ yg; omega) (fun _ hh => by have := (K2.out.row.lt yg hh).2; omega) (fun q hq h0 _ => by have := (K2.out.body q hq).lt h0; show (y q).blk ≠ yg; omega) hown' hgrow hat
      have hE9 : Ext u w9 := by
        have e1 : Below u.heap.size W (w5.setCell ⟨W.heap.size, 1, none⟩ (.slice ya len yc)) := below_touch ((Ext.trans (Ext.alloc _ _) E5.out).mono (by have := Below.size KE.out; omega)) ((Touch.refl W.heap.size w5).set 1 _) (by have := Below.size KE.out; omega)
        have e2 := (e1.alloc (by simp [World.setCell]; omega) (.cells #[.int .i64 tag, .slice ya len yc, .int .i64 kid] 55)).grown hgrow (by simp [World.setCell]; omega) (fun g hg => by have := (K2.out.row.lt g hg).1; omega)
        exact Below.trans KE.out e2
      have Hblk := hide hblk
      have Hst := hide hstep
      have HE9 := hide hE9
      have Hat := hide hat
      have hsz9 : W.heap.size ≤ w9.heap.size := by have := hgrow.size; simp [World.setCell] at this; omega
      clear hblk hstep hE9 hat hown' hgrow hnil hbT kb c0 c1 c2 q0 q1 q2 q9 s6 cL
      gi_wp2
      have hd1 : ∀ k, (O k ∨ XB (w1.heap.size + 1 + 1 + 1) (w1.heap.size + 1 + 1) b k) → k ≠ w1.heap.size + 1 := fun k hk e => by
        rcases hk with h | h | h | h
        · have := KO.out k h; omega
        · omega
        · omega
        · omega
      have hnotv : ∀ k, (O k ∨ XB (w1.heap.size + 1 + 1 + 1) (w1.heap.size + 1 + 1) b k) → (Value.slice va (plcL pre).length vc).ownBlock ≠ some k := fun k hk e => by
        have := K3.out k e
        rcases hk with h | h
        · exact this.1 h
        · exact this.2.1 h
      have hnew : ∀ g, W.heap.size ≤ g → ¬ O g ∧ ¬ XB (w1.heap.size + 1 + 1 + 1) (w1.heap.size + 1 + 1) b g ∧ g ≠ w1.heap.size + 1 := fun g hg => by
        refine ⟨fun ho => by have := (HOk.out _ ho).2; omega, ?_, by omega⟩
        rintro (h | h | h) <;> omega
      have hnv' : ∀ g, (Value.slice va' ((plcL pre).length + 1) vc').ownBlock = some g → ¬ O g ∧ ¬ XB (w1.heap.size + 1 + 1 + 1) (w1.heap.size + 1 + 1) b g ∧ g ≠ w1.heap.size + 1 := fun g hg => by
        rcases Hat.out with h | h
        · exact K3.out g (h.symm.trans hg)
        · rw [h] at hg
          simp only [Option.some.injEq] at hg
          subst hg
          exact hnew _ (by simp [World.setCell]; omega)
      have hbod : ∀ q, q < (plcL pre).length + 1 → 0 < (updI y (plcL pre).length ⟨tag, kid, ya, yg, 0, len, yc, f⟩ q).len → ¬ O (updI y (plcL pre).length ⟨tag, kid, ya, yg, 0, len, yc, f⟩ q).blk ∧ ¬ XB (w1.heap.size + 1 + 1 + 1) (w1.heap.size + 1 + 1) b (updI y (plcL pre).length ⟨tag, kid, ya, yg, 0, len, yc, f⟩ q).blk ∧ (updI y (plcL pre).length ⟨tag, kid, ya, yg, 0, len, yc, f⟩ q).blk ≠ w1.heap.size + 1 := fun q hq => by
        by_cases c : q = (plcL pre).length
        · subst c; rw [updI_same]; exact fun _ => hnew yg (by omega)
        · rw [updI_other _ _ c]; exact K4.out q (by omega)
      refine ⟨⟨(HE9.out.os.trans KE.out.os.symm), (HE9.out.tape.trans KE.out.tape.symm), (HE9.out.output.trans KE.out.output.symm), by simpa [World.setCell] using hsz9, fun k hk hl => (Below.heap_setCell _ _ _ _ (hd1 k hk)).trans (Hblk.out k hl (hnotv k hk))⟩, ?_⟩
      show PtI u w1 x _ O (plcL (pre ++ [(⟨(j, r), hj⟩ : Pl n)])) _
      rw [plcL_add]
      refine ⟨⟨.slice va' ((plcL pre).length + 1) vc', updI y (plcL pre).length ⟨tag, kid, ya, yg, 0, len, yc, f⟩, World.cell?_setCell_same _ _ _ c9, ?_, ?_, hnv', ?_⟩, by rw [World.frozen?_setCell]; exact f9, KO.out, by simp [World.setCell]; omega, ?_⟩
      · rw [List.length_append, List.length_singleton]
        exact Hst.out.keep (Nat.le_refl _) (fun g hg => Below.heap_setCell _ _ _ _ (hnv' g hg).2.2) (fun q hq h0 => Below.heap_setCell _ _ _ _ (hbod q hq h0).2.2)
      · exact KS.out.step HT2.out.1 HT2.out.2.1 HT2.out.2.2.1 HT2.out.2.2.2
      · rw [List.length_append, List.length_singleton]
        exact hbod
      · exact below_touch HE9.out ((Touch.refl (w1.heap.size + 1) w9).set 0 _) (by omega)
    case done =>
      rintro O xs W hS ⟨⟨v, y, k1, k2, kS, k3, k4⟩, kf, kO, kB, kE⟩ hOd hlt hD
      obtain ⟨va, vc, rfl⟩ := ownsRow_slice k2.row
      have HR : Hid (plcL xs = List.range' i (e - i)) := by
        show _ = _
        rw [plcL_map, hS, HT.out, List.map_cons, HST.out.places, show e - i = (e - (i + 1)) + 1 by omega, List.range'_succ]
      have K2 := hide k2
      have K3 := hide k3
      have K4 := hide k4
      have KS := hide kS
      have KE := hide kE
      clear k2 k3 k4 kS kE hseq I0
      gi_wp2
      refine ⟨by simp, .inl ⟨_, _, rfl, run_takeDeferred (ds := []) hD, ?_⟩⟩
      refine ⟨_, results_tmp2 rfl _ _ _, .slice va (plcL xs).length vc, y, rfl, ?_, KS.out.range HR.out, ?_⟩
      · have hle : e - i = (plcL xs).length := by rw [HR.out, List.length_range']
        rw [hle]
        exact K2.out.keep (by omega) (fun g hg => World.putObj_heap_other (fun e => (K3.out g hg).1 (by rw [e]; exact hOd))) (fun q hq h0 => World.putObj_heap_other (fun e => (K4.out q hq h0).1 (by rw [e]; exact hOd)))
      · exact Below.trans HEu.out ((Below.trans KE.out ((putObj_below V.heap.size _ V.heap.size _ (Nat.le_refl _)).mono (by omega))).mono (by omega))
    case stop => exact fun c O pre W _ h => h.elim
end

end Go.Proofs.YtmcdikbcmikihaaDoor
