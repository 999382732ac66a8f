/- The walk of the law FnExactReadDer. A list of bytes that came in, opened. -/
import Derived.Test.YtmcdikbcmikihaaDoorDz01
import Derived.Test.YtmcdikbcmikihaaDoorDz02
import Derived.Test.YtmcdikbcmikihaaDoorDz22
import Derived.Test.YtmcdikbcmikihaaDoorRows
import Derived.WalkKit
import Derived.ProofKit
import Derived.OpenShut
import Derived.ChangeOld
import Derived.Below
namespace Go.Proofs.YtmcdikbcmikihaaDoor

section
set_option linter.unusedVariables false
set_option linter.unusedSimpArgs false

open Go.RowKit

/-- Items and bytes together. -/
def wt : List Ic → Nat
  | [] => 0
  | c :: L => 1 + c.bd.length + wt L

theorem wt_app : ∀ (A B : List Ic), wt (A ++ B) = wt A + wt B
  | [], B => by simp [wt]
  | a :: A, B => by rw [List.cons_append, wt, wt, wt_app A B]; omega

theorem wt_len : ∀ (A : List Ic), A.length ≤ wt A ∧ ∀ c ∈ A, c.bd.length ≤ wt A
  | [] => ⟨Nat.le_refl _, fun c hc => by cases hc⟩
  | a :: A => by
    have h := wt_len A
    rw [wt, List.length_cons]
    refine ⟨by omega, fun c hc => ?_⟩
    rcases List.mem_cons.1 hc with rfl | hc
    · omega
    · have := h.2 c hc; omega

theorem rdK_wt {t : Nat} {rd : Nat → Rdr} (h : ∀ a, (rd a).code = 0 → wt (rd a).its + a ≤ (rd a).nx) : ∀ m a, (rdK rd t m a).1.code = 0 → wt (rdK rd t m a).1.its + a ≤ (rdK rd t m a).1.nx
  | 0, a, _ => by simp [rdK, wt]
  | m + 1, a, hc => by
    rw [rdK] at hc ⊢
    by_cases hle : t ≤ a
    · rw [if_pos hle]; simp [wt]
    · rw [if_neg hle] at hc ⊢
      by_cases h1 : (rd a).code = 0
      · rw [if_neg (fun k => k h1)] at hc ⊢
        by_cases h2 : (rdK rd t m (rd a).nx).1.code = 0
        · rw [if_neg (fun k => k h2)]
          have e1 := h a h1
          have e2 := rdK_wt h m (rd a).nx h2
          show wt ((rd a).its ++ (rdK rd t m (rd a).nx).1.its) + a ≤ (rdK rd t m (rd a).nx).1.nx
          rw [wt_app]
          omega
        · rw [if_pos h2] at hc; exact absurd hc h2
      · rw [if_pos h1] at hc; exact absurd hc h1

theorem rdK_nx {t : Nat} {rd : Nat → Rdr} (h : ∀ a, (rd a).code = 0 → (rd a).nx ≤ t) : ∀ m x, x ≤ t → (rdK rd t m x).1.code = 0 → (rdK rd t m x).1.nx ≤ t
  | 0, x, hx, _ => hx
  | m + 1, x, hx, hc => by
    rw [rdK] at hc ⊢
    by_cases hle : t ≤ x
    · rw [if_pos hle]; exact hx
    · rw [if_neg hle] at hc ⊢
      by_cases h1 : (rd x).code = 0
      · rw [if_neg (fun k => k h1)] at hc ⊢
        by_cases h2 : (rdK rd t m (rd x).nx).1.code = 0
        · rw [if_neg (fun k => k h2)]
          exact rdK_nx h m _ (h x h1) h2
        · rw [if_pos h2] at hc; exact absurd hc h2
      · rw [if_pos h1] at hc; exact absurd hc h1

theorem rdT_wt (f : Nat → Int) : ∀ k a e d, (rdT f k a e d).code = 0 → wt (rdT f k a e d).its + a ≤ (rdT f k a e d).nx
  | 0, a, e, d, h => by simp [rdT] at h
  | k + 1, a, e, d, h => by
    rw [rdT] at h ⊢
    by_cases hd : (hdC f a e d).1 = 0
    · rw [if_neg (fun h => h hd)] at h ⊢
      have h0 := hdC_ok hd
      by_cases hm : mdT (f a) = false
      · rw [if_pos hm]
        show 1 + (itH f (hdOf f a e d)).bd.length + 0 + a ≤ hdE f a e
        unfold itH
        show 1 + (if mdT (f a) then [] else (List.range (hdE f a e - hdS f a e)).map (fun i => f (hdS f a e + i))).length + 0 + a ≤ hdE f a e
        rw [hm, if_neg (by simp), List.length_map, List.length_range]
        omega
      · rw [if_neg hm] at h ⊢
        have K := rdK_wt (t := hdE f a e) (rd := fun x => rdT f k x (hdE f a e) (d + 1)) (fun x hx => rdT_wt f k x (hdE f a e) (d + 1) hx) (hdE f a e - hdS f a e) (hdS f a e)
        have N1 := rdK_nx (t := hdE f a e) (rd := fun x => rdT f k x (hdE f a e) (d + 1)) (fun x hx => (rdT_nx f k x (hdE f a e) (d + 1) hx).2) (hdE f a e - hdS f a e) (hdS f a e) h0.2.2.2.2.2.2
        generalize rdK (fun x => rdT f k x (hdE f a e) (d + 1)) (hdE f a e) (hdE f a e - hdS f a e) (hdS f a e) = Q at K N1 h ⊢
        by_cases hc : Q.1.code = 0
        · rw [if_neg (fun h => h hc)]
          have e1 := K hc
          have e2 := N1 hc
          show 1 + 0 + wt Q.1.its + a ≤ hdE f a e
          omega
        · rw [if_pos hc] at h; exact absurd h hc
    · rw [if_pos hd] at h; exact absurd h hd

theorem rdA_wt (f : Nat → Int) (bn : Nat) : wt (rdA f bn).1 ≤ 4000 := by
  unfold rdA
  by_cases h1 : 4000 < bn
  · rw [if_pos h1]; exact Nat.zero_le _
  rw [if_neg h1]
  by_cases h2 : (rdT f 14 0 bn 0).code = 0
  · rw [if_neg (fun h => h h2)]
    have e1 := rdT_wt f 14 0 bn 0 h2
    have e2 := (rdT_nx f 14 0 bn 0 h2).2
    by_cases h3 : 300 < (rdT f 14 0 bn 0).its.length
    · rw [if_pos h3]; exact Nat.zero_le _
    rw [if_neg h3]
    by_cases h4 : (rdT f 14 0 bn 0).nx < bn
    · rw [if_pos h4]; exact Nat.zero_le _
    · rw [if_neg h4]; show wt (rdT f 14 0 bn 0).its ≤ 4000; omega
  · rw [if_pos h2]; exact Nat.zero_le _

theorem SameC.few {L : List It} {C : List Ic} (h : SameC L C) (hC : wt C ≤ 4000) : (∀ i, i < C.length → (L.getD i dI).len ≤ 1048576) ∧ sumL (fun i => L.getD i dI) C.length ≤ 1048576 := by
  have hl := h.len
  have hlen : ∀ i (hi : i < C.length), (L.getD i dI).len = (C[i]).bd.length := fun i hi => by
    obtain ⟨-, e⟩ := h.at' hi
    rw [← ct_len, e]
  have key : ∀ m, m ≤ C.length → sumL (fun i => L.getD i dI) m ≤ wt (C.take m) := by
    intro m
    induction m with
    | zero => intro _; exact Nat.zero_le _
    | succ m ih =>
      intro hm
      have h1 := ih (by omega)
      have h2 := hlen m (by omega)
      show sumL _ m + (L.getD m dI).len ≤ _
      rw [List.take_add_one, wt_app, List.getElem?_eq_getElem (show m < C.length by omega), h2]
      show _ ≤ _ + wt [C[m]]
      have : wt [C[m]] = 1 + (C[m]).bd.length + 0 := rfl
      omega
  refine ⟨fun i hi => ?_, ?_⟩
  · rw [hlen i hi]
    have := (wt_len C).2 _ (List.getElem_mem hi)
    omega
  · have := key C.length (Nat.le_refl _)
    rw [List.take_length] at this
    omega

/-- A new list of items that tell C, and two numbers. -/
def GivesJ (w : World) (C : List Ic) (c p : Int) (e : Ending) (w' : World) : Prop := ∃ a S cap L, e = .returned (.tuple #[.slice a C.length cap, .int .i64 c, .int .i64 p]) ∧ IOw w.heap.size w' a S 0 C.length (fun i => L.getD i dI) ∧ SameC L C ∧ Ext w w'

theorem GivesRd.j {w w' : World} {A : List Ic × Int × Int} {e : Ending} (h : GivesRd w A e w') (hA : wt A.1 ≤ 4000) : GivesJ w A.1 A.2.1 A.2.2 e w' := by
  obtain ⟨v, M, rfl, hL, hc, hE⟩ := h
  obtain ⟨a, S, cap, rfl, hI⟩ := hL.iow (fun t ht => by
    have h1 : ct t ∈ A.1 := by rw [← hc]; exact List.mem_map.2 ⟨t, ht, rfl⟩
    have := (wt_len A.1).2 _ h1
    rw [ct_len] at this
    omega)
  have hl := map_len hc
  rw [hl] at hI
  exact ⟨a, S, cap, M, by rw [hl], hI, ⟨hc, hL.bods.nf⟩, hE⟩

theorem Hdl.of_ext {w w' : World} (h : Hdl w) (e : Ext w w') : Hdl w' := (Below.cell e (p := ⟨0, 0, none⟩) (World.block_lt_of_cell? _ _ h)).trans h

set_option maxHeartbeats 6400000 in
set_option maxRecDepth 100000 in
theorem lawReadDer_at (a : Option Addr) (b off n cap : Nat) (f : Nat → Int) (C : List Ic) (c p : Int) (hC : wt C ≤ 4000) (w : World) (hs : BSeg w a b off n f) (hn : n ≤ 1048576)
    (HSp : Hid (∀ (R : Nat) (W : World), BSeg W (some ⟨R, 0, none⟩) R 0 n f → Calls Tryd.prog 6 #[.slice (some ⟨R, 0, none⟩) n n] W fun e w' => GivesJ W C c p e w'))
    (HIm : Hid (∀ (R : Nat) (W : World), Ext w W → BSeg W (some ⟨R, 0, none⟩) R 0 n f → Calls Tryd.prog 8 #[.slice (some ⟨R, 0, none⟩) n n] W fun e w' => GivesJ W C c p e w')) :
    Calls Tryd.prog 3 #[.slice a n cap] w fun e w' => e = .returned (.bool true) ∧ Ext w w' := by
  have hz : ¬ (1048576 : Int) < (n : Int) := by omega
  have HTo : Hid (∀ W, Ext w W → Calls Tryd.prog 7 #[.slice a n cap] W fun e w' => e = .returned (.slice (some ⟨W.heap.size, 0, none⟩) n n) ∧ w'.heap.size = W.heap.size + 1 ∧ BOwn w' (some ⟨W.heap.size, 0, none⟩) W.heap.size 0 n f ∧ Ext W w') := fun W hW => (toByteS_any a b off n cap f W (hs.of_all hW) hn).mono (fun e w' ⟨h1, h2, h3, h4⟩ => ⟨h1, h2, BOwn.of_row h3 (Nat.le_refl _), h4⟩)
  have HXl : Hid (∀ L, SameC L C → (∀ i, i < C.length → (L.getD i dI).len ≤ 1048576) ∧ sumL (fun i => L.getD i dI) C.length ≤ 1048576) := fun L h => h.few hC
  have HXe : Hid (∀ L L', SameC L C → SameC L' C → itsEq (fun i => L.getD i dI) (fun i => L'.getD i dI) C.length = true) := fun L L' h h' => itsEq_C h h'
  have hM : C.length ≤ 1048576 := by have := (wt_len C).1; omega
  have HE0 := hide (Ext.refl w)
  have hne1 : (c != c) = false := by simp
  have hne2 : (p != p) = false := by simp
  unfold GivesJ at HSp HIm
  clear hs hC
  generalize C.length = M at *
  go_enter Tryd.func3, Tryd.ntmps3
  go_wp2_with fail
  refine (HTo.out _ HE0.out).mono ?_
  rintro e w2 ⟨rfl, -, hs2, HEW⟩
  have HE := hide HEW
  clear HEW HE0
  go_wp2_with fail
  refine (HSp.out _ _ hs2.toBSeg).mono ?_
  rintro e w3 ⟨aw, Sw, cw, Lw, rfl, ow, kw, HEW⟩
  replace HE := hide (Ext.trans HE.out HEW)
  have Low := hide ow.lw
  have Kw := hide kw
  have hS3 : w.heap.size ≤ w3.heap.size := Below.size HE.out
  clear HEW hs2 HSp ow kw
  go_wp2_with fail
  refine (HTo.out _ HE.out).mono ?_
  rintro e w4 ⟨rfl, hz4, hs4, HEW⟩
  replace HE := hide (Ext.trans HE.out HEW)
  replace Low := hide (Low.out.below HEW (Nat.le_refl _))
  have Hs5 := hide hs4
  clear HEW hs4
  have lt4 : w3.heap.size < w4.heap.size := by omega
  clear hz4
  go_wp2_with fail
  refine (HIm.out _ _ HE.out Hs5.out.toBSeg).mono ?_
  rintro e w6 ⟨ag, Sg, cg, Lg, rfl, og, kg, HEW⟩
  replace HE := hide (Ext.trans HE.out HEW)
  replace Low := hide (Low.out.below HEW (by omega))
  have Og := hide og
  have Kg := hide kg
  have lt6 : w4.heap.size ≤ w6.heap.size := Below.size HEW
  replace Hs5 := hide (Hs5.out.of_all HEW)
  clear HEW og kg
  go_wp2_with fail
  refine (eqItemS_any ag Sg 0 M cg _ aw Sw 0 M cw _ _ Og.out.toISeg Low.out.toISeg hM (HXl.out _ Kg.out).1).mono ?_
  rintro e w7 ⟨rfl, HEW⟩
  rw [HXe.out _ _ Kg.out Kw.out, show (M == M && true) = true by simp]
  replace HE := hide (Ext.trans HE.out HEW)
  replace Low := hide (Low.out.below HEW (by omega))
  replace Og := hide (Og.out.of_all HEW)
  replace Hs5 := hide (Hs5.out.of_all HEW)
  have lt7 : w6.heap.size ≤ w7.heap.size := Below.size HEW
  clear HEW
  go_wp2_with fail
  refine (HTo.out _ HE.out).mono ?_
  rintro e w8 ⟨rfl, -, hs8, HEW⟩
  replace HE := hide (Ext.trans HE.out HEW)
  replace Low := hide (Low.out.below HEW (by omega))
  replace Og := hide (Og.out.of_all HEW)
  replace Hs5 := hide (Hs5.out.of_all HEW)
  have lt8 : w7.heap.size ≤ w8.heap.size := Below.size HEW
  clear HEW
  go_wp2_with fail
  refine (eqByteS_any _ _ 0 n n f _ _ 0 n n f _ Hs5.out.toBSeg hs8.toBSeg hn).mono ?_
  rintro e w9 ⟨rfl, q, hq⟩
  have HEW : Ext w8 w9 := by rw [hq]; exact ⟨rfl, rfl, rfl, Nat.le_refl _, fun _ _ => rfl⟩
  rw [show (n == n && alike f f n) = true by rw [alike_refl]]
  replace HE := hide (Ext.trans HE.out HEW)
  replace Low := hide (Low.out.below HEW (by omega))
  replace Og := hide (Og.out.of_all HEW)
  replace Hs5 := hide (Hs5.out.of_all HEW)
  have lt9 : w8.heap.size ≤ w9.heap.size := Below.size HEW
  clear HEW hs8 hq
  go_wp2_with fail
  refine (markByteS_any _ w3.heap.size 0 n n f 1 _ Hs5.out hn (by omega) (by omega)).mono ?_
  rintro e w10 ⟨rfl, -, hT⟩
  have hMT : MarkT w3.heap.size w4.heap.size w9 w10 := MarkT.of_touch hT (Nat.le_refl _) lt4
  replace HE := hide (MarkT.below HE.out hMT hS3)
  replace Low := hide (Low.out.keep (fun q hq => hMT.same q (.inl hq)))
  replace Og := hide (Og.out.of_blkK (fun h0 => hMT.same _ (.inr (by have := Og.out.rowB h0; omega))) (fun i hi h0 => hMT.same _ (.inr (by have := (Og.out.away i hi h0).2; omega))))
  have lt10 : w9.heap.size ≤ w10.heap.size := by rw [hMT.size]; exact Nat.le_refl _
  clear hMT hT Hs5
  have hk0 : ¬ (1 + (n : Int) < 0) := by omega
  go_wp2_with fail
  refine (eqItemS_any ag Sg 0 M cg _ aw Sw 0 M cw _ _ Og.out.toISeg Low.out.toISeg hM (HXl.out _ Kg.out).1).mono ?_
  rintro e w11 ⟨rfl, HEW⟩
  rw [HXe.out _ _ Kg.out Kw.out, show (M == M && true) = true by simp]
  replace HE := hide (Ext.trans HE.out HEW)
  replace Low := hide (Low.out.below HEW (by omega))
  replace Og := hide (Og.out.of_all HEW)
  have lt11 : w10.heap.size ≤ w11.heap.size := Below.size HEW
  clear HEW
  go_wp2_with fail
  refine (markItemS_own w4.heap.size ag Sg 0 M cg _ w11 Og.out (by omega) hM (HXl.out _ Kg.out).2).mono ?_
  rintro e w16 ⟨rfl, og2, hMk⟩
  replace HE := hide (Below.trans HE.out (hMk.below.mono (by omega)))
  replace Low := hide (Low.out.below hMk.below (by omega))
  have Og2 := hide og2
  have lt16 : w11.heap.size ≤ w16.heap.size := by rw [hMk.size]; exact Nat.le_refl _
  clear Og hMk og2
  have HQk : Hid (¬ kqI (fun i => Lg.getD i dI) M < 0) := by show ¬ _; unfold kqI; omega
  have HHd : Hid (∀ W, ISeg W ag Sg 0 M (mkd (fun i => Lg.getD i dI) M) → Calls Tryd.prog 13 #[.slice ag M cg, .int .i64 1] W fun e w' => e = .returned (.int .i64 (kqI (fun i => Lg.getD i dI) M)) ∧ w' = W) := fun W h => heldItemS_own ag Sg 0 M cg _ W h hM (HXl.out _ Kg.out).2
  generalize kqI (fun i => Lg.getD i dI) M = Qk at *
  have hQk := HQk.out
  go_wp2_with fail
  refine (HHd.out _ Og2.out.toISeg).mono ?_
  rintro e w17 ⟨rfl, hw⟩
  obtain rfl := hw.symm
  go_wp2_with fail
  refine (HTo.out _ HE.out).mono ?_
  rintro e w18 ⟨rfl, -, hs18, HEW⟩
  replace HE := hide (Ext.trans HE.out HEW)
  replace Low := hide (Low.out.below HEW (by omega))
  replace Og2 := hide (Og2.out.of_all HEW)
  have lt18 : w16.heap.size ≤ w18.heap.size := Below.size HEW
  clear HEW
  go_wp2_with fail
  refine (HIm.out _ _ HE.out hs18.toBSeg).mono ?_
  rintro e w19 ⟨ah, Sh, ch, Lh, rfl, oh, kh, HEW⟩
  replace HE := hide (Ext.trans HE.out HEW)
  replace Low := hide (Low.out.below HEW (by omega))
  replace Og2 := hide (Og2.out.of_all HEW)
  have Oh := hide oh
  have Kh := hide kh
  clear HEW hs18 oh kh HIm
  go_wp2_with fail
  refine (eqItemS_any ah Sh 0 M ch _ aw Sw 0 M cw _ _ Oh.out.toISeg Low.out.toISeg hM (HXl.out _ Kh.out).1).mono ?_
  rintro e w20 ⟨rfl, HEW⟩
  rw [HXe.out _ _ Kh.out Kw.out, show (M == M && true) = true by simp]
  replace HE := hide (Ext.trans HE.out HEW)
  replace Og2 := hide (Og2.out.of_all HEW)
  clear HEW Low Oh
  go_wp2_with fail
  refine (HHd.out _ Og2.out.toISeg).mono ?_
  rintro e w21 ⟨rfl, hw⟩
  obtain rfl := hw.symm
  go_wp2
  go_ret
  exact ⟨rfl, HE.out⟩

theorem lawReadDer_any (a : Option Addr) (b off n cap : Nat) (f : Nat → Int) (w : World) (hs : BSeg w a b off n f) (hb : ∀ i, i < n → 0 ≤ f i ∧ f i ≤ 255) (hg : Hdl w) :
    Calls Tryd.prog 3 #[.slice a n cap] w fun e w' => e = .returned (.bool true) ∧ Ext w w' := by
  have hb' : ∀ i, i < n → 0 ≤ f i ∧ f i < 256 := fun i hi => by have := hb i hi; omega
  by_cases hn : n ≤ 1048576
  · exact lawReadDer_at a b off n cap f _ _ _ (rdA_wt f n) w hs hn (hide fun R W h => (specReadDer_any _ R 0 n n f W h hb' hn (Nat.le_refl _) (by omega)).mono (fun _ _ k => GivesRd.j k (rdA_wt f n)))
      (hide fun R W hW h => (implReadDer_any _ R 0 n n f W h hb' (Nat.le_refl _) (by omega) (hg.of_ext hW)).mono (fun _ _ k => GivesRd.j k (rdA_wt f n)))
  · have hz : (1048576 : Int) < (n : Int) := by omega
    go_enter Tryd.func3, Tryd.ntmps3
    go_wp2
    go_ret
    exact ⟨rfl, Ext.refl _⟩
end

section
set_option linter.unusedVariables false
set_option linter.unusedSimpArgs false

open Go.RowKit

open Go.ChangeShapes Go.WideShapes Go.ChangeAt

section

variable {H : Type} {enc : TypeId × Value → H} {w : World} {base : Nat} {held : Bool}

set_option maxRecDepth 100000 in
theorem open_bytesC {fuel : Nat} {cs : List Value} {x : DataW H × List MemPlace} (h : DataW.trod enc Tryd.prog w base (fun _ => true) held fuel 22 cs = some x) :
    ∃ (a : Option Addr) (b off n cap : Nat) (f : Nat → Int), cs = [.slice a n cap] ∧ BSeg w a b off n f ∧ (∀ i, i < n → 0 ≤ f i ∧ f i ≤ 255) ∧ n ≤ 9223372036854775807 ∧ n ≤ cap := by
  rcases open_ints Tryd.underlying22 Tryd.underlying5 (by kernel_rfl) h with ⟨hcs, _⟩ | ⟨a, l, c, zs, hcs, _, hl, hm, hz, _, hcell, hwz⟩
  · exact ⟨none, 0, 0, 0, 0, fun _ => 0, hcs, ⟨fun h => absurd h (Nat.lt_irrefl _), fun i hi => absurd hi (Nat.not_lt_zero _)⟩, fun i hi => absurd hi (Nat.not_lt_zero _), Nat.zero_le _, Nat.zero_le _⟩
  · simp at hz
    obtain ⟨b, off, spot⟩ := a
    have hmm : l ≤ 9223372036854775807 := by unfold maxLen at hm; omega
    by_cases h0 : l = 0
    · subst h0
      exact ⟨_, 0, 0, 0, c, fun _ => 0, hcs, ⟨fun h => absurd h (Nat.lt_irrefl _), fun i hi => absurd hi (Nat.not_lt_zero _)⟩, fun i hi => absurd hi (Nat.not_lt_zero _), Nat.zero_le _, Nat.zero_le _⟩
    · have hspot : spot = none := by simpa [Addr.add] using World.cell?_spot (hcell 0 (by omega))
      subst hspot
      refine ⟨some ⟨b, off, none⟩, b, off, l, c, fun i => zs.getD i 0, hcs, ⟨fun _ => rfl, fun i hi => ?_⟩, fun j hj => ?_, hmm, hl⟩
      · have := hcell i (by omega)
        have e : (⟨b, off, none⟩ : Addr).add i = ⟨b, off + i, none⟩ := by
          by_cases h0 : i = 0
          · subst h0; simp [Addr.add]
          · simp [Addr.add, h0]
        rwa [e] at this
      · have hm : zs.getD j 0 ∈ zs := by
          rw [List.getD_eq_getElem?_getD, List.getElem?_eq_getElem (show j < zs.length by omega)]
          exact List.getElem_mem _
        have := bounds_u8 (hwz _ hm)
        show 0 ≤ zs.getD j 0 ∧ zs.getD j 0 ≤ 255
        omega

set_option maxRecDepth 100000 in
theorem open_bytes {r : Reach} {b0 : Nat} {v : Value} {d : DataW H} {p : List MemPlace} (hv : Value.okWide Tryd.prog w r b0 22 v) (h : DataW.Trod enc Tryd.prog w base (fun _ => true) held 22 v d p) :
    ∃ (a : Option Addr) (b off n cap : Nat) (f : Nat → Int), v = .slice a n cap ∧ BSeg w a b off n f ∧ (∀ i, i < n → 0 ≤ f i ∧ f i ≤ 255) := by
  obtain ⟨a', len', cap', rfl⟩ := okWide_slice Tryd.underlying22 hv
  obtain ⟨fuel, hf⟩ := h
  obtain ⟨a, b, off, n, cap, f, hcs, hI, hB, -, -⟩ := open_bytesC hf
  simp [Value.cells] at hcs
  obtain ⟨rfl, rfl, rfl⟩ := hcs
  exact ⟨_, b, off, _, _, f, rfl, hI, hB⟩

end
end

end Go.Proofs.YtmcdikbcmikihaaDoor
