/- The walk of the law FnExactReadDer. Plain facts: how many bytes an item has. Walks: WriteDer of the model. What is read as a tree is written as just these bytes; in plain numbers. What is read is a right tree; where none is read, the place is within. Plain numbers. What is written of a tree is bytes; in plain numbers. -/
import Derived.Test.YtmcdikbcmikihaaDoorChecked
import Derived.Test.YtmcdikbcmikihaaDoorSq01
import Derived.Test.YtmcdikbcmikihaaDoorSq04
import Derived.Test.YtmcdikbcmikihaaDoorSq20
import Derived.Test.YtmcdikbcmikihaaDoorSq08
import Derived.Test.YtmcdikbcmikihaaDoorSq15
import Derived.Test.YtmcdikbcmikihaaDoorSq03
namespace Go.Proofs.YtmcdikbcmikihaaDoor

section
set_option linter.unusedVariables false
set_option linter.unusedSimpArgs false

open Go.RowKit

/-- Items and bytes together. -/
def wt : List Ic → Nat
  | [] => 0
  | c :: L => 1 + c.bd.length + wt L

theorem wt_app : ∀ (A B : List Ic), wt (A ++ B) = wt A + wt B
  | [], B => by simp [wt]
  | a :: A, B => by rw [List.cons_append, wt, wt, wt_app A B]; omega

theorem wt_len : ∀ (A : List Ic), A.length ≤ wt A ∧ ∀ c ∈ A, c.bd.length ≤ wt A
  | [] => ⟨Nat.le_refl _, fun c hc => by cases hc⟩
  | a :: A => by
    have h := wt_len A
    rw [wt, List.length_cons]
    refine ⟨by omega, fun c hc => ?_⟩
    rcases List.mem_cons.1 hc with rfl | hc
    · omega
    · have := h.2 c hc; omega

theorem rdK_wt {t : Nat} {rd : Nat → Rdr} (h : ∀ a, (rd a).code = 0 → wt (rd a).its + a ≤ (rd a).nx) : ∀ m a, (rdK rd t m a).1.code = 0 → wt (rdK rd t m a).1.its + a ≤ (rdK rd t m a).1.nx
  | 0, a, _ => by simp [rdK, wt]
  | m + 1, a, hc => by
    rw [rdK] at hc ⊢
    by_cases hle : t ≤ a
    · rw [if_pos hle]; simp [wt]
    · rw [if_neg hle] at hc ⊢
      by_cases h1 : (rd a).code = 0
      · rw [if_neg (fun k => k h1)] at hc ⊢
        by_cases h2 : (rdK rd t m (rd a).nx).1.code = 0
        · rw [if_neg (fun k => k h2)]
          have e1 := h a h1
          have e2 := rdK_wt h m (rd a).nx h2
          show wt ((rd a).its ++ (rdK rd t m (rd a).nx).1.its) + a ≤ (rdK rd t m (rd a).nx).1.nx
          rw [wt_app]
          omega
        · rw [if_pos h2] at hc; exact absurd hc h2
      · rw [if_pos h1] at hc; exact absurd hc h1

theorem rdK_nx {t : Nat} {rd : Nat → Rdr} (h : ∀ a, (rd a).code = 0 → (rd a).nx ≤ t) : ∀ m x, x ≤ t → (rdK rd t m x).1.code = 0 → (rdK rd t m x).1.nx ≤ t
  | 0, x, hx, _ => hx
  | m + 1, x, hx, hc => by
    rw [rdK] at hc ⊢
    by_cases hle : t ≤ x
    · rw [if_pos hle]; exact hx
    · rw [if_neg hle] at hc ⊢
      by_cases h1 : (rd x).code = 0
      · rw [if_neg (fun k => k h1)] at hc ⊢
        by_cases h2 : (rdK rd t m (rd x).nx).1.code = 0
        · rw [if_neg (fun k => k h2)]
          exact rdK_nx h m _ (h x h1) h2
        · rw [if_pos h2] at hc; exact absurd hc h2
      · rw [if_pos h1] at hc; exact absurd hc h1

theorem rdT_wt (f : Nat → Int) : ∀ k a e d, (rdT f k a e d).code = 0 → wt (rdT f k a e d).its + a ≤ (rdT f k a e d).nx
  | 0, a, e, d, h => by simp [rdT] at h
  | k + 1, a, e, d, h => by
    rw [rdT] at h ⊢
    by_cases hd : (hdC f a e d).1 = 0
    · rw [if_neg (fun h => h hd)] at h ⊢
      have h0 := hdC_ok hd
      by_cases hm : mdT (f a) = false
      · rw [if_pos hm]
        show 1 + (itH f (hdOf f a e d)).bd.length + 0 + a ≤ hdE f a e
        unfold itH
        show 1 + (if mdT (f a) then [] else (List.range (hdE f a e - hdS f a e)).map (fun i => f (hdS f a e + i))).length + 0 + a ≤ hdE f a e
        rw [hm, if_neg (by simp), List.length_map, List.length_range]
        omega
      · rw [if_neg hm] at h ⊢
        have K := rdK_wt (t := hdE f a e) (rd := fun x => rdT f k x (hdE f a e) (d + 1)) (fun x hx => rdT_wt f k x (hdE f a e) (d + 1) hx) (hdE f a e - hdS f a e) (hdS f a e)
        have N1 := rdK_nx (t := hdE f a e) (rd := fun x => rdT f k x (hdE f a e) (d + 1)) (fun x hx => (rdT_nx f k x (hdE f a e) (d + 1) hx).2) (hdE f a e - hdS f a e) (hdS f a e) h0.2.2.2.2.2.2
        generalize rdK (fun x => rdT f k x (hdE f a e) (d + 1)) (hdE f a e) (hdE f a e - hdS f a e) (hdS f a e) = Q at K N1 h ⊢
        by_cases hc : Q.1.code = 0
        · rw [if_neg (fun h => h hc)]
          have e1 := K hc
          have e2 := N1 hc
          show 1 + 0 + wt Q.1.its + a ≤ hdE f a e
          omega
        · rw [if_pos hc] at h; exact absurd h hc
    · rw [if_pos hd] at h; exact absurd h hd

theorem rdA_wt (f : Nat → Int) (bn : Nat) : wt (rdA f bn).1 ≤ 4000 := by
  unfold rdA
  by_cases h1 : 4000 < bn
  · rw [if_pos h1]; exact Nat.zero_le _
  rw [if_neg h1]
  by_cases h2 : (rdT f 14 0 bn 0).code = 0
  · rw [if_neg (fun h => h h2)]
    have e1 := rdT_wt f 14 0 bn 0 h2
    have e2 := (rdT_nx f 14 0 bn 0 h2).2
    by_cases h3 : 300 < (rdT f 14 0 bn 0).its.length
    · rw [if_pos h3]; exact Nat.zero_le _
    rw [if_neg h3]
    by_cases h4 : (rdT f 14 0 bn 0).nx < bn
    · rw [if_pos h4]; exact Nat.zero_le _
    · rw [if_neg h4]; show wt (rdT f 14 0 bn 0).its ≤ 4000; omega
  · rw [if_pos h2]; exact Nat.zero_le _

theorem SameC.few {L : List It} {C : List Ic} (h : SameC L C) (hC : wt C ≤ 4000) : (∀ i, i < C.length → (L.getD i dI).len ≤ 1048576) ∧ sumL (fun i => L.getD i dI) C.length ≤ 1048576 := by
  have hl := h.len
  have hlen : ∀ i (hi : i < C.length), (L.getD i dI).len = (C[i]).bd.length := fun i hi => by
    obtain ⟨-, e⟩ := h.at' hi
    rw [← ct_len, e]
  have key : ∀ m, m ≤ C.length → sumL (fun i => L.getD i dI) m ≤ wt (C.take m) := by
    intro m
    induction m with
    | zero => intro _; exact Nat.zero_le _
    | succ m ih =>
      intro hm
      have h1 := ih (by omega)
      have h2 := hlen m (by omega)
      show sumL _ m + (L.getD m dI).len ≤ _
      rw [List.take_add_one, wt_app, List.getElem?_eq_getElem (show m < C.length by omega), h2]
      show _ ≤ _ + wt [C[m]]
      have : wt [C[m]] = 1 + (C[m]).bd.length + 0 := rfl
      omega
  refine ⟨fun i hi => ?_, ?_⟩
  · rw [hlen i hi]
    have := (wt_len C).2 _ (List.getElem_mem hi)
    omega
  · have := key C.length (Nat.le_refl _)
    rw [List.take_length] at this
    omega

/-- A new list of items that tell C, and two numbers. -/
def GivesJ (w : World) (C : List Ic) (c p : Int) (e : Ending) (w' : World) : Prop := ∃ a S cap L, e = .returned (.tuple #[.slice a C.length cap, .int .i64 c, .int .i64 p]) ∧ IOw w.heap.size w' a S 0 C.length (fun i => L.getD i dI) ∧ SameC L C ∧ Ext w w'

theorem GivesRd.j {w w' : World} {A : List Ic × Int × Int} {e : Ending} (h : GivesRd w A e w') (hA : wt A.1 ≤ 4000) : GivesJ w A.1 A.2.1 A.2.2 e w' := by
  obtain ⟨v, M, rfl, hL, hc, hE⟩ := h
  obtain ⟨a, S, cap, rfl, hI⟩ := hL.iow (fun t ht => by
    have h1 : ct t ∈ A.1 := by rw [← hc]; exact List.mem_map.2 ⟨t, ht, rfl⟩
    have := (wt_len A.1).2 _ h1
    rw [ct_len] at this
    omega)
  have hl := map_len hc
  rw [hl] at hI
  exact ⟨a, S, cap, M, by rw [hl], hI, ⟨hc, hL.bods.nf⟩, hE⟩

theorem Hdl.of_ext {w w' : World} (h : Hdl w) (e : Ext w w') : Hdl w' := (Below.cell e (p := ⟨0, 0, none⟩) (World.block_lt_of_cell? _ _ h)).trans h
end

section
set_option linter.unusedVariables false
set_option linter.unusedSimpArgs false

open Go.RowKit

/-- The bytes of the bodies of the items from s on, c of them. -/
def smL (x : Nat → It) (s : Nat) : Nat → Nat
  | 0 => 0
  | c + 1 => smL x s c + (x (s + c)).len

theorem smL_add (x : Nat → It) (s c d : Nat) : smL x s (c + d) = smL x s c + smL x (s + c) d := by
  induction d with
  | zero => rfl
  | succ d ih => rw [← Nat.add_assoc, smL, smL, ih, Nat.add_assoc, Nat.add_assoc]

theorem smL_one (x : Nat → It) (s : Nat) : smL x s 1 = (x s).len := by show 0 + (x (s + 0)).len = _; simp

theorem lgL_len (n : Nat) (h : (n : Int) ≤ 9223372036854775807) : 1 ≤ (lgL n).length ∧ (lgL n).length ≤ 10 := by
  have := lgN_le (n := (n : Int)) (by omega) h
  simpa [lgL] using this

theorem wrB_bounds {x : Nat → It} {g : Nat → List Int} {f : Nat → Int} (hg : ∀ s e : Nat, f s = e → s < e ∧ smL x s (e - s) ≤ (g s).length ∧ (g s).length ≤ smL x s (e - s) + 11 * (e - s)) (s : Nat) :
    ∀ (k e : Nat), kidsF f k (s : Int) = e → s ≤ e ∧ smL x s (e - s) ≤ (wrB g f s k).length ∧ (wrB g f s k).length ≤ smL x s (e - s) + 11 * (e - s)
  | 0, e, h => by
    have : (s : Int) = e := h
    obtain rfl : s = e := by omega
    rw [Nat.sub_self]
    exact ⟨Nat.le_refl _, Nat.le_refl _, Nat.le_refl _⟩
  | k + 1, e, h => by
    have h' : (if kidsF f k (s : Int) < 0 then -1 else f (kidsF f k (s : Int)).toNat) = e := h
    by_cases c : kidsF f k (s : Int) < 0
    · rw [if_pos c] at h'; omega
    · rw [if_neg c] at h'
      obtain ⟨z, hz⟩ : ∃ z : Nat, kidsF f k (s : Int) = z := ⟨(kidsF f k (s : Int)).toNat, by omega⟩
      rw [hz, Int.toNat_natCast] at h'
      obtain ⟨a1, a2, a3⟩ := wrB_bounds hg s k z hz
      obtain ⟨b1, b2, b3⟩ := hg z e h'
      have e1 : e - s = (z - s) + (e - z) := by omega
      have e2 : s + (z - s) = z := by omega
      rw [wrB, List.length_append, hz, Int.toNat_natCast, e1, smL_add, e2]
      omega

/-- An item's bytes: those of the bodies, and at most 11 more an item. -/
theorem wrF_bounds (x : Nat → It) (n : Nat) (hb : ∀ i, i < n → (x i).len ≤ 1048576) (hn : n ≤ 1048576) : ∀ (m i e : Nat), endF (fun j => (x j).kid) n m i = e → i < e ∧ smL x i (e - i) ≤ (wrF x n m i).length ∧ (wrF x n m i).length ≤ smL x i (e - i) + 11 * (e - i)
  | 0, i, e, h => by
    have : (-1 : Int) = e := h
    omega
  | m + 1, i, e, h => by
    have hi : i < n := endF_lt (kid := fun j => (x j).kid) (m := m + 1) (by rw [h]; omega)
    have h' : kidsF (endF (fun j => (x j).kid) n m) (x i).kid.toNat ((i : Int) + 1) = e := by
      rw [endF, if_neg (by omega)] at h
      exact h
    obtain ⟨a1, a2, a3⟩ := wrB_bounds (fun s e hs => wrF_bounds x n hb hn m s e hs) (i + 1) (x i).kid.toNat e (by rw [← h']; rfl)
    have e1 : e - i = 1 + (e - (i + 1)) := by omega
    have hen : (e : Int) ≤ n := by rw [← h]; exact (endF_range _ n (m + 1) i).2
    have hbo : (boL (x i)).length = (x i).len := by simp [boL]
    have hL : (wrF x n (m + 1) i).length = 1 + ((lgL ((x i).len + (wrB (wrF x n m) (endF (fun j => (x j).kid) n m) ((i + 1 : Nat) : Int) (x i).kid.toNat).length)).length + ((x i).len + (wrB (wrF x n m) (endF (fun j => (x j).kid) n m) ((i + 1 : Nat) : Int) (x i).kid.toNat).length)) := by
      rw [wrF, List.length_cons, List.length_append, List.length_append, hbo]
      rw [show ((i : Int) + 1) = ((i + 1 : Nat) : Int) from rfl]
      omega
    have hsm : ∀ (s c : Nat), s + c ≤ n → smL x s c ≤ 1048576 * c := fun s c => by
      induction c with
      | zero => intro _; exact Nat.le_refl _
      | succ c ih =>
        intro hc
        have h1 := ih (by omega)
        have h2 := hb (s + c) (by omega)
        rw [smL]
        omega
    have hs := hsm (i + 1) (e - (i + 1)) (by omega)
    obtain ⟨l1, l2⟩ := lgL_len ((x i).len + (wrB (wrF x n m) (endF (fun j => (x j).kid) n m) ((i + 1 : Nat) : Int) (x i).kid.toNat).length) (by have := hb i hi; omega)
    rw [hL, e1, smL_add, smL_one]
    omega
end

section
set_option linter.unusedVariables false
set_option linter.unusedSimpArgs false

open Go.RowKit

/-- What WriteDer answers. -/
def wdB (x : Nat → It) (n : Nat) : Bool := treeV x n && decide ((wrF x n 13 0).length ≤ 4000)

def wdL (x : Nat → It) (n : Nat) : List Int := if wdB x n then wrF x n 13 0 else []

def GivesWd (w : World) (L : List Int) (ok : Bool) (e : Ending) (w' : World) : Prop := ∃ v, e = .returned (.tuple #[v, .bool ok]) ∧ w'.ownsRow w.heap.size 5 1 v L.length (bl L) ∧ Ext w w'

theorem smL_part (x : Nat → It) {k n : Nat} (h : k < n) : smL x 0 k + (x k).len ≤ smL x 0 n := by
  obtain ⟨d, rfl⟩ : ∃ d, n = k + 1 + d := ⟨n - (k + 1), by omega⟩
  rw [smL_add, smL, Nat.zero_add]
  omega

set_option maxHeartbeats 3200000 in
set_option maxRecDepth 100000 in
theorem specWriteDer_any (a : Option Addr) (b off n cap : Nat) (x : Nat → It) (w : World) (hs : ISeg w a b off n x) (hn : n ≤ 1048576) (hl : ∀ i, i < n → (x i).len ≤ 1048576) :
    Calls Tryd.prog 37 #[.slice a n cap] w fun e w' => GivesWd w (wdL x n) (wdB x n) e w' := by
  have HT := hide (specTree_any a b off n cap x w hs hn)
  have HN : Hid (∀ W, Ext w W → GivesWd w [] false (.returned (.tuple #[.slice (some ⟨W.heap.size, 0, none⟩) 0 0, .bool false])) (W.alloc (.cells #[] 5))) := fun W h => ⟨_, rfl, World.ownsRow_made (base := w.heap.size) (e := 5) (size := 1) W #[] 0 (Below.size h) (by simp) rfl, h.trans (Ext.alloc _ _)⟩
  cases ht : treeV x n
  · have h1 : wdB x n = false := by unfold wdB; rw [ht]; rfl
    have h2 : wdL x n = [] := by unfold wdL; rw [h1]; rfl
    rw [h1, h2]
    rw [ht] at HT
    clear hs hl ht h1 h2
    go_enter Tryd.func37, Tryd.ntmps37
    go_wp2_with (go_at_call 57; refine HT.out.mono ?_; rintro e w1 ⟨rfl, hE⟩; have HE := hide hE; clear hE)
    go_ret2
    exact HN.out _ HE.out
  · rw [ht] at HT
    obtain ⟨h1, h300, hg⟩ := tree_good ht
    have hend : endF (fun j => (x j).kid) n 13 0 = n := by
      unfold treeV at ht
      simp only [decide_eq_true_eq] at ht
      exact ht.2.2.2
    obtain ⟨-, wl, wu⟩ := wrF_bounds x n hl hn 13 0 n hend
    rw [Nat.sub_zero] at wl wu
    have hd : wdB x n = decide ((wrF x n 13 0).length ≤ 4000) := by unfold wdB; rw [ht]; rfl
    have Hno : Hid (4000 < (wrF x n 13 0).length → wdB x n = false ∧ wdL x n = []) := fun h => by
      have e : wdB x n = false := by rw [hd]; exact decide_eq_false (by omega)
      exact ⟨e, by unfold wdL; rw [e]; rfl⟩
    have Hyes : Hid ((wrF x n 13 0).length ≤ 4000 → wdB x n = true ∧ wdL x n = wrF x n 13 0) := fun h => by
      have e : wdB x n = true := by rw [hd]; exact decide_eq_true h
      exact ⟨e, by unfold wdL; rw [e]; rfl⟩
    have HWr : Hid (∀ W, (wrF x n 13 0).length ≤ 60000 → Ext w W → Calls Tryd.prog 58 #[.slice a n cap, .int .i64 0] W fun e w' => GivesWr W (wrF x n 13 0) (n : Int) e w') := fun W h hE => by
      have := l7Write_any a b off n cap x w hs hn (fun i hi => by have := hg i hi; unfold itGood at this; omega) (fun i hi => by have := hg i hi; unfold itGood at this; omega) 13 0 W (by omega) (by rw [hend]; omega) h hE
      rw [hend] at this
      exact this
    have Hwl := hide wl
    have Hwu := hide wu
    have HS := hide hs
    have Hl := hide hl
    obtain rfl := hs.at' (by omega)
    generalize wrF x n 13 0 = Lw at *
    generalize wdB x n = ok at *
    generalize wdL x n = Ld at *
    clear hs hl ht hd hend hg wl wu
    go_enter Tryd.func37, Tryd.ntmps37
    go_wp2_with (go_at_call 57; refine HT.out.mono ?_; rintro e w1 ⟨rfl, hE⟩; have HE := hide hE; clear hE)
    clear HT
    go_loop [4, 5] (fun sv iv => ∃ k : Nat, k ≤ n ∧ iv = .int .i64 (k : Int) ∧ sv = .int .i64 (smL x 0 k : Int) ∧ smL x 0 k ≤ 4000 * k) (fun _ iv => n - (intOf iv).toNat)
    case atStart => exact ⟨0, Nat.zero_le _, rfl, rfl, Nat.le_refl _⟩
    case round =>
      obtain ⟨k, hk, rfl, rfl, hsm⟩ := hrel
      by_cases hlt : k < n
      · have hlt' : (k : Int) < (n : Int) := by omega
        have c1 := (HS.out.of_all HE.out).c1 k hlt
        have hpart := smL_part x hlt
        by_cases hbig : 4000 < (x k).len
        · have hbig' : (4000 : Int) < ((x k).len : Int) := by omega
          obtain ⟨e1, e2⟩ := Hno.out (by have := Hwl.out; omega)
          subst e1 e2
          clear hpart hsm
          go_wp2
          go_ret2
          exact HN.out _ HE.out
        · have hbig' : ¬ (4000 : Int) < ((x k).len : Int) := by omega
          have hst : smL x 0 (k + 1) = smL x 0 k + (x k).len := by rw [smL, Nat.zero_add]
          have Hst := hide hst
          have hw1 : wrap64 ((smL x 0 k : Int) + ((x k).len : Int)) = ((smL x 0 k + (x k).len : Nat) : Int) := by unfold wrap64; omega
          have hb2 : smL x 0 k + (x k).len ≤ 4000 * (k + 1) := by omega
          rw [← hst] at hw1 hb2
          generalize hS1 : smL x 0 (k + 1) = S1 at *
          have HS1 := hide hS1
          clear hpart hsm hst hbig hS1
          go_wp2
          go_round
          case rel => exact ⟨k + 1, hlt, by clear hw1; go_num, (by rw [HS1.out, ← hw1]), by rw [HS1.out]; exact hb2⟩
          case measure => clear hw1; simp [intOf]; omega
      · obtain rfl : k = n := by omega
        have hlt' : ¬ (k : Int) < (k : Int) := by omega
        have hwl := Hwl.out
        have hwu := Hwu.out
        by_cases hbig : 4000 < smL x 0 k
        · have hbig' : (4000 : Int) < (smL x 0 k : Int) := by omega
          obtain ⟨e1, e2⟩ := Hno.out (by omega)
          subst e1 e2
          generalize smL x 0 k = S0 at *
          clear hbig hwl hwu hsm
          go_wp2
          go_ret2
          exact HN.out _ HE.out
        · have hbig' : ¬ (4000 : Int) < (smL x 0 k : Int) := by omega
          have HC := hide (HWr.out w1 (by omega) HE.out)
          have hl2 : Lw.length ≤ 60000 := by omega
          generalize smL x 0 k = S0 at *
          clear hbig hwl hwu hsm HWr
          go_wp2_with fail
          refine HC.out.mono ?_
          rintro e w3 ⟨v, rfl, hO, hE3⟩
          have HE3 := hide (HE.out.trans hE3)
          have HO := hide (owns_mono hO (Below.size HE.out))
          obtain ⟨va, vg, vc, rfl⟩ : ∃ va vg vc, v = .slice va Lw.length vc := by
            rw [bl_byts] at hO
            obtain ⟨a1, g1, c1, rfl, -⟩ := owns_seg hO
            exact ⟨a1, g1, c1, rfl⟩
          clear hO hE3 HC
          by_cases h4 : Lw.length ≤ 4000
          · have h4' : ¬ (4000 : Int) < (Lw.length : Int) := by omega
            obtain ⟨e1, e2⟩ := Hyes.out h4
            subst e1 e2
            clear h4
            go_wp2
            go_ret2
            exact ⟨_, rfl, HO.out, HE3.out⟩
          · have h4' : (4000 : Int) < (Lw.length : Int) := by omega
            obtain ⟨e1, e2⟩ := Hno.out (by omega)
            subst e1 e2
            clear h4
            go_wp2
            go_ret2
            exact HN.out _ HE3.out
end

section
set_option linter.unusedVariables false
set_option linter.unusedSimpArgs false

def byF (f : Nat → Int) (a c : Nat) : List Int := (List.range c).map (fun i => f (a + i))

theorem byF_len (f : Nat → Int) (a c : Nat) : (byF f a c).length = c := by simp [byF]

theorem byF_app (f : Nat → Int) (a c d : Nat) : byF f a (c + d) = byF f a c ++ byF f (a + c) d := by
  unfold byF
  rw [List.range_add, List.map_append, List.map_map]
  congr 1
  apply List.map_congr_left
  intro i _
  show f (a + (c + i)) = f (a + c + i)
  rw [Nat.add_assoc]

theorem byF_one (f : Nat → Int) (a c : Nat) : byF f a (c + 1) = f a :: byF f (a + 1) c := by
  rw [Nat.add_comm, byF_app]
  rfl

/-- A well length's bytes are those that are written. -/
theorem lnR_back {f : Nat → Int} {a e : Nat} (hb : ∀ i, i < e → 0 ≤ f i ∧ f i < 256) (h2 : (lnR f a e).2.2 ≠ 2) (h4 : (lnR f a e).2.2 ≠ 4) : lgL (lnR f a e).1 = byF f (a + 1) ((lnR f a e).2.1 - (a + 1)) := by
  unfold lnR at *
  by_cases c1 : e ≤ a + 1
  · rw [if_pos c1] at h2; exact absurd rfl h2
  rw [if_neg c1] at h2 h4 ⊢
  have b1 := hb (a + 1) (by omega)
  by_cases c2 : f (a + 1) < 128
  · rw [if_pos c2]
    have hc : (((f (a + 1)).toNat : Nat) : Int) = f (a + 1) := by omega
    obtain ⟨g1, g2⟩ := lg_low (n := (((f (a + 1)).toNat : Nat) : Int)) (by omega)
    show (List.range (lgN (((f (a + 1)).toNat : Nat) : Int))).map (lgF (((f (a + 1)).toNat : Nat) : Int)) = byF f (a + 1) (a + 2 - (a + 1))
    rw [g1, show a + 2 - (a + 1) = 1 by omega]
    show [lgF _ 0] = [f (a + 1 + 0)]
    rw [g2 0 (by omega), hc, Nat.add_zero]
  rw [if_neg c2] at h2 h4 ⊢
  by_cases c3 : f (a + 1) = 128 ∨ 130 < f (a + 1)
  · rw [if_pos c3] at h4; exact absurd rfl h4
  rw [if_neg c3] at h2 h4 ⊢
  by_cases c4 : (e : Int) ≤ a + 1 + (f (a + 1) - 128)
  · rw [if_pos c4] at h2; exact absurd rfl h2
  rw [if_neg c4] at h2 h4 ⊢
  have b2 := hb (a + 2) (by omega)
  by_cases c5 : f (a + 1) = 129
  · rw [if_pos c5] at h2 h4 ⊢
    by_cases c6 : f (a + 2) < 128
    · rw [if_pos c6] at h4; exact absurd rfl h4
    · rw [if_neg c6]
      have hc : (((f (a + 2)).toNat : Nat) : Int) = f (a + 2) := by omega
      obtain ⟨g1, g2, g3⟩ := lg_mid (n := (((f (a + 2)).toNat : Nat) : Int)) (by omega) (by omega)
      show (List.range (lgN (((f (a + 2)).toNat : Nat) : Int))).map (lgF (((f (a + 2)).toNat : Nat) : Int)) = byF f (a + 1) (a + 3 - (a + 1))
      rw [g1, show a + 3 - (a + 1) = 2 by omega]
      show [lgF _ 0, lgF _ 1] = [f (a + 1 + 0), f (a + 1 + 1)]
      rw [g2, g3, hc, Nat.add_zero, c5]
  · rw [if_neg c5] at h2 h4 ⊢
    have b3 := hb (a + 3) (by omega)
    by_cases c6 : 256 * f (a + 2) + f (a + 3) < 256
    · rw [if_pos c6] at h4; exact absurd rfl h4
    · rw [if_neg c6]
      have hc : (((256 * f (a + 2) + f (a + 3)).toNat : Nat) : Int) = 256 * f (a + 2) + f (a + 3) := by omega
      obtain ⟨g1, g2, g3, g4⟩ := lg_high (n := (((256 * f (a + 2) + f (a + 3)).toNat : Nat) : Int)) (by omega) (by omega)
      show (List.range (lgN (((256 * f (a + 2) + f (a + 3)).toNat : Nat) : Int))).map (lgF (((256 * f (a + 2) + f (a + 3)).toNat : Nat) : Int)) = byF f (a + 1) (a + 4 - (a + 1))
      rw [g1, show a + 4 - (a + 1) = 3 by omega]
      show [lgF _ 0, lgF _ 1, lgF _ 2] = [f (a + 1 + 0), f (a + 1 + 1), f (a + 1 + 2)]
      rw [g2, g3, g4, hc, Nat.add_zero, show a + 1 + 1 = a + 2 from rfl, show a + 1 + 2 = a + 3 from rfl]
      have c7 : f (a + 1) = 130 := by omega
      rw [c7, show (256 * f (a + 2) + f (a + 3)) / 256 = f (a + 2) by omega, show (256 * f (a + 2) + f (a + 3)) % 256 = f (a + 3) by omega]

theorem wrB_front (G : Nat → List Int) (E : Nat → Int) (hE : ∀ i, -1 ≤ E i) (q : Nat) : ∀ c, wrB G E (q : Int) (c + 1) = G q ++ wrB G E (E q) c
  | 0 => by
    show [] ++ G ((q : Int)).toNat = G q ++ []
    simp
  | c + 1 => by
    rw [wrB, wrB_front G E hE q c, kidsF_front E hE q c, List.append_assoc]
    rfl

/-- The items from place q on are these. -/
def AtI (x : Nat → It) (q : Nat) (its : List Ic) : Prop := ∀ j c, its[j]? = some c → ct (x (q + j)) = c

theorem AtI.left {x : Nat → It} {q : Nat} {A B : List Ic} (h : AtI x q (A ++ B)) : AtI x q A := fun j c hj => h j c (by rw [List.getElem?_append_left (List.getElem?_eq_some_iff.1 hj).1]; exact hj)

theorem AtI.right {x : Nat → It} {q : Nat} {A B : List Ic} (h : AtI x q (A ++ B)) : AtI x (q + A.length) B := fun j c hj => by
  have := h (A.length + j) c (by rw [List.getElem?_append_right (by omega), Nat.add_sub_cancel_left]; exact hj)
  rwa [← Nat.add_assoc] at this

theorem AtI.tail {x : Nat → It} {q : Nat} {c0 : Ic} {B : List Ic} (h : AtI x q (c0 :: B)) : ct (x q) = c0 ∧ AtI x (q + 1) B := ⟨h 0 c0 rfl, fun j c hj => by
  have := h (j + 1) c (by simpa using hj)
  rwa [show q + 1 + j = q + (j + 1) by omega]⟩

theorem boL_ct (x : It) : boL x = (ct x).bd := rfl

theorem rdK_end {t : Nat} {rd : Nat → Rdr} (h : ∀ a, (rd a).code = 0 → a + 2 ≤ (rd a).nx ∧ (rd a).nx ≤ t) : ∀ m a, a ≤ t → t - a ≤ m → (rdK rd t m a).1.code = 0 → (rdK rd t m a).1.nx = t
  | 0, a, h1, h2, _ => by show a = t; omega
  | m + 1, a, h1, h2, hc => by
    rw [rdK] at hc ⊢
    by_cases hle : t ≤ a
    · rw [if_pos hle]; show a = t; omega
    · rw [if_neg hle] at hc ⊢
      by_cases e1 : (rd a).code = 0
      · rw [if_neg (fun k => k e1)] at hc ⊢
        by_cases e2 : (rdK rd t m (rd a).nx).1.code = 0
        · rw [if_neg (fun k => k e2)]
          have := h a e1
          exact rdK_end h m (rd a).nx this.2 (by omega) e2
        · rw [if_pos e2] at hc; exact absurd hc e2
      · rw [if_pos e1] at hc; exact absurd hc e1

section

variable {f : Nat → Int} {x : Nat → It} {n t : Nat} {rd : Nat → Rdr} {G : Nat → List Int} {E : Nat → Int}

theorem kids_back (hE : ∀ i, -1 ≤ E i) (hn : ∀ a, (rd a).code = 0 → a + 2 ≤ (rd a).nx ∧ (rd a).nx ≤ t)
    (hI : ∀ a, (rd a).code = 0 → ∀ q, AtI x q (rd a).its → q + (rd a).its.length ≤ n → E q = ((q + (rd a).its.length : Nat) : Int) ∧ G q = byF f a ((rd a).nx - a)) :
    ∀ m a, (rdK rd t m a).1.code = 0 → ∀ q, AtI x q (rdK rd t m a).1.its → q + (rdK rd t m a).1.its.length ≤ n →
      kidsF E (rdK rd t m a).2 (q : Int) = ((q + (rdK rd t m a).1.its.length : Nat) : Int) ∧ wrB G E (q : Int) (rdK rd t m a).2 = byF f a ((rdK rd t m a).1.nx - a) ∧ a ≤ (rdK rd t m a).1.nx
  | 0, a, _, q, _, _ => by
    refine ⟨?_, ?_, Nat.le_refl _⟩
    · show (q : Int) = ((q + 0 : Nat) : Int); rfl
    · show [] = byF f a (a - a); rw [Nat.sub_self]; rfl
  | m + 1, a, hc, q, hA, hq => by
    rw [rdK] at hc hA hq ⊢
    by_cases hle : t ≤ a
    · rw [if_pos hle]
      refine ⟨?_, ?_, Nat.le_refl _⟩
      · show (q : Int) = ((q + 0 : Nat) : Int); rfl
      · show [] = byF f a (a - a); rw [Nat.sub_self]; rfl
    · rw [if_neg hle] at hc hA hq ⊢
      by_cases e1 : (rd a).code = 0
      · rw [if_neg (fun k => k e1)] at hc hA hq ⊢
        by_cases e2 : (rdK rd t m (rd a).nx).1.code = 0
        · rw [if_neg (fun k => k e2)] at hA hq ⊢
          have hA' : AtI x q ((rd a).its ++ (rdK rd t m (rd a).nx).1.its) := hA
          have hq' : q + ((rd a).its ++ (rdK rd t m (rd a).nx).1.its).length ≤ n := hq
          rw [List.length_append] at hq'
          obtain ⟨i1, i2⟩ := hI a e1 q hA'.left (by omega)
          obtain ⟨k1, k2, k3⟩ := kids_back hE hn hI m (rd a).nx e2 (q + (rd a).its.length) hA'.right (by omega)
          have h1 := hn a e1
          refine ⟨?_, ?_, by show a ≤ (rdK rd t m (rd a).nx).1.nx; omega⟩
          · show kidsF E ((rdK rd t m (rd a).nx).2 + 1) (q : Int) = ((q + ((rd a).its ++ (rdK rd t m (rd a).nx).1.its).length : Nat) : Int)
            rw [kidsF_front E hE, i1, k1, List.length_append, Nat.add_assoc]
          · show wrB G E (q : Int) ((rdK rd t m (rd a).nx).2 + 1) = byF f a ((rdK rd t m (rd a).nx).1.nx - a)
            rw [wrB_front G E hE, i1, i2, k2, show (rdK rd t m (rd a).nx).1.nx - a = ((rd a).nx - a) + ((rdK rd t m (rd a).nx).1.nx - (rd a).nx) by omega, byF_app, show a + ((rd a).nx - a) = (rd a).nx by omega]
        · rw [if_pos e2] at hc; exact absurd hc e2
      · rw [if_pos e1] at hc; exact absurd hc e1

end

theorem hd_bytes {f : Nat → Int} {a e d : Nat} (hb : ∀ i, i < e → 0 ≤ f i ∧ f i < 256) (hd : (hdC f a e d).1 = 0) : lgL (hdE f a e - hdS f a e) = byF f (a + 1) (hdS f a e - (a + 1)) := by
  have h0 := hdC_ok hd
  have h1 := lnR_back (a := a) hb (by rw [h0.2.2.2.1]; decide) (by rw [h0.2.2.2.1]; decide)
  have h2 : hdE f a e - hdS f a e = (lnR f a e).1 := by unfold hdE hdS; omega
  rw [h2]
  exact h1

set_option maxRecDepth 100000 in
theorem item_back (f : Nat → Int) (x : Nat → It) (n : Nat) : ∀ k a e d, d + (k + 1) = 14 → (∀ i, i < e → 0 ≤ f i ∧ f i < 256) → (rdT f (k + 1) a e d).code = 0 → ∀ q, AtI x q (rdT f (k + 1) a e d).its → q + (rdT f (k + 1) a e d).its.length ≤ n →
    endF (fun j => (x j).kid) n k q = ((q + (rdT f (k + 1) a e d).its.length : Nat) : Int) ∧ wrF x n k q = byF f a ((rdT f (k + 1) a e d).nx - a) := by
  intro k
  induction k with
  | zero =>
    intro a e d hd hb hc
    exfalso
    have hd' : (hdC f a e d).1 ≠ 0 := fun h => by have := (hdC_ok h).2.2.1; omega
    rw [rdT, if_pos hd'] at hc
    exact hd' hc
  | succ k ih =>
    intro a e d hdk hb hc q hA hq
    rw [rdT] at hc hA hq ⊢
    by_cases hd : (hdC f a e d).1 = 0
    · rw [if_neg (fun h => h hd)] at hc hA hq ⊢
      have h0 := hdC_ok hd
      have hh := hd_bytes hb hd
      have split : byF f a (hdE f a e - a) = f a :: (byF f (a + 1) (hdS f a e - (a + 1)) ++ byF f (hdS f a e) (hdE f a e - hdS f a e)) := by
        rw [show hdE f a e - a = ((hdS f a e - (a + 1)) + (hdE f a e - hdS f a e)) + 1 by omega, byF_one, byF_app, show a + 1 + (hdS f a e - (a + 1)) = hdS f a e by omega]
      by_cases hm : mdT (f a) = false
      · rw [if_pos hm] at hA hq ⊢
        obtain ⟨e1, -⟩ := AtI.tail hA
        have hq1 : q + 1 ≤ n := hq
        have e2 : (x q).tag = f a := congrArg Ic.tag e1
        have e3 : (x q).kid = 0 := congrArg Ic.kid e1
        have e4 : boL (x q) = byF f (hdS f a e) (hdE f a e - hdS f a e) := by
          rw [boL_ct, e1]
          show (if mdT (f a) then [] else (List.range (hdE f a e - hdS f a e)).map (fun i => f (hdS f a e + i))) = _
          rw [hm]
          rfl
        refine ⟨?_, ?_⟩
        · rw [endF, if_neg (by omega)]
          show kidsF (endF (fun j => (x j).kid) n k) ((x q).kid).toNat ((q : Int) + 1) = ((q + 1 : Nat) : Int)
          rw [e3, Int.toNat_zero, kidsF]
          omega
        · rw [wrF, e3, e2, e4, Int.toNat_zero, wrB, List.append_nil, byF_len, hh]
          exact split.symm
      · rw [if_neg hm] at hc hA hq ⊢
        have K := kids_back (f := f) (x := x) (n := n) (t := hdE f a e) (rd := fun y => rdT f (k + 1) y (hdE f a e) (d + 1)) (G := wrF x n k) (E := endF (fun j => (x j).kid) n k) (fun i => (endF_range _ n k i).1) (fun y hy => rdT_nx f (k + 1) y (hdE f a e) (d + 1) hy) (fun y hy q' h1 h2 => ih y (hdE f a e) (d + 1) (by omega) (fun i hi => hb i (by omega)) hy q' h1 h2) (hdE f a e - hdS f a e) (hdS f a e)
        have N := rdK_end (t := hdE f a e) (rd := fun y => rdT f (k + 1) y (hdE f a e) (d + 1)) (fun y hy => rdT_nx f (k + 1) y (hdE f a e) (d + 1) hy) (hdE f a e - hdS f a e) (hdS f a e) h0.2.2.2.2.2.2 (Nat.le_refl _)
        generalize rdK (fun y => rdT f (k + 1) y (hdE f a e) (d + 1)) (hdE f a e) (hdE f a e - hdS f a e) (hdS f a e) = Q at K N hc hA hq ⊢
        by_cases hQ : Q.1.code = 0
        · rw [if_neg (fun h => h hQ)] at hA hq ⊢
          obtain ⟨e1, hA1⟩ := AtI.tail hA
          have hq1 : q + (Q.1.its.length + 1) ≤ n := hq
          have e2 : (x q).tag = f a := congrArg Ic.tag e1
          have e3 : (x q).kid = (Q.2 : Int) := congrArg Ic.kid e1
          have e4 : boL (x q) = [] := by rw [boL_ct, e1]
          obtain ⟨k1, k2, k3⟩ := K hQ (q + 1) hA1 (by omega)
          have hN := N hQ
          have hq2 : ((q : Int) + 1) = ((q + 1 : Nat) : Int) := by omega
          refine ⟨?_, ?_⟩
          · rw [endF, if_neg (by omega)]
            show kidsF (endF (fun j => (x j).kid) n k) ((x q).kid).toNat ((q : Int) + 1) = ((q + (Q.1.its.length + 1) : Nat) : Int)
            rw [e3, Int.toNat_natCast, hq2, k1]
            omega
          · rw [wrF, e3, e2, e4, Int.toNat_natCast, hq2, k2, List.nil_append, byF_len, hN, hh]
            exact split.symm
        · rw [if_pos hQ] at hc; exact absurd hc hQ
    · rw [if_pos hd] at hc
      exact absurd hc hd
end

section
set_option linter.unusedVariables false
set_option linter.unusedSimpArgs false

/-- An item that is well, with no more than N kids. -/
def gdC (N : Nat) (c : Ic) : Prop := 0 ≤ c.tag ∧ c.tag ≤ 255 ∧ c.tag % 32 ≠ 31 ∧ 0 ≤ c.kid ∧ c.kid ≤ N ∧ (c.tag / 32 % 2 = 1 → c.bd = []) ∧ (c.tag / 32 % 2 ≠ 1 → c.kid = 0)

theorem gdC.mono {N M : Nat} {c : Ic} (h : gdC N c) (k : N ≤ M) : gdC M c := ⟨h.1, h.2.1, h.2.2.1, h.2.2.2.1, by have := h.2.2.2.2.1; omega, h.2.2.2.2.2⟩

theorem rdK_good {t : Nat} {rd : Nat → Rdr} (h : ∀ a, (rd a).code = 0 → 1 ≤ (rd a).its.length ∧ ∀ c ∈ (rd a).its, gdC (rd a).its.length c) : ∀ m a, (rdK rd t m a).1.code = 0 → (rdK rd t m a).2 ≤ (rdK rd t m a).1.its.length ∧ ∀ c ∈ (rdK rd t m a).1.its, gdC (rdK rd t m a).1.its.length c
  | 0, a, _ => ⟨Nat.le_refl _, fun c hc => by cases hc⟩
  | m + 1, a, hc => by
    rw [rdK] at hc ⊢
    by_cases hle : t ≤ a
    · rw [if_pos hle]
      exact ⟨Nat.le_refl _, fun c hc => by cases hc⟩
    · rw [if_neg hle] at hc ⊢
      by_cases e1 : (rd a).code = 0
      · rw [if_neg (fun k => k e1)] at hc ⊢
        by_cases e2 : (rdK rd t m (rd a).nx).1.code = 0
        · rw [if_neg (fun k => k e2)]
          have h1 := h a e1
          have h2 := rdK_good h m (rd a).nx e2
          show (rdK rd t m (rd a).nx).2 + 1 ≤ ((rd a).its ++ (rdK rd t m (rd a).nx).1.its).length ∧ ∀ c ∈ (rd a).its ++ (rdK rd t m (rd a).nx).1.its, gdC ((rd a).its ++ (rdK rd t m (rd a).nx).1.its).length c
          rw [List.length_append]
          refine ⟨by omega, fun c hc => ?_⟩
          rcases List.mem_append.1 hc with hc | hc
          · exact (h1.2 c hc).mono (by omega)
          · exact (h2.2 c hc).mono (by omega)
        · rw [if_pos e2] at hc; exact absurd hc e2
      · rw [if_pos e1] at hc; exact absurd hc e1

theorem mdT_iff (t : Int) : mdT t = true ↔ t / 32 % 2 = 1 := by unfold mdT; exact decide_eq_true_iff

theorem rdT_good (f : Nat → Int) : ∀ k a e d, (∀ i, i < e → 0 ≤ f i ∧ f i < 256) → (rdT f k a e d).code = 0 → 1 ≤ (rdT f k a e d).its.length ∧ ∀ c ∈ (rdT f k a e d).its, gdC (rdT f k a e d).its.length c
  | 0, a, e, d, _, h => by simp [rdT] at h
  | k + 1, a, e, d, hb, h => by
    rw [rdT] at h ⊢
    by_cases hd : (hdC f a e d).1 = 0
    · rw [if_neg (fun h => h hd)] at h ⊢
      have h0 := hdC_ok hd
      have hfa := hb a h0.1
      by_cases hm : mdT (f a) = false
      · rw [if_pos hm]
        have hm' : ¬ f a / 32 % 2 = 1 := fun e => by rw [(mdT_iff _).2 e] at hm; cases hm
        refine ⟨Nat.le_refl _, fun c hc => ?_⟩
        rw [List.mem_singleton.1 hc]
        exact ⟨hfa.1, by show f a ≤ 255; omega, h0.2.1, Int.le_refl _, by show (0 : Int) ≤ ((1 : Nat) : Int); omega, fun e => absurd e hm', fun _ => rfl⟩
      · rw [if_neg hm] at h ⊢
        have hm1 : f a / 32 % 2 = 1 := (mdT_iff _).1 (by simpa using hm)
        have K := rdK_good (t := hdE f a e) (rd := fun x => rdT f k x (hdE f a e) (d + 1)) (fun x hx => rdT_good f k x (hdE f a e) (d + 1) (fun i hi => hb i (by omega)) hx) (hdE f a e - hdS f a e) (hdS f a e)
        generalize rdK (fun x => rdT f k x (hdE f a e) (d + 1)) (hdE f a e) (hdE f a e - hdS f a e) (hdS f a e) = Q at K h ⊢
        by_cases hc : Q.1.code = 0
        · rw [if_neg (fun h => h hc)]
          obtain ⟨k1, k2⟩ := K hc
          refine ⟨by show 1 ≤ (_ :: Q.1.its).length; rw [List.length_cons]; omega, fun c hc => ?_⟩
          show gdC ((⟨f a, (Q.2 : Int), []⟩ : Ic) :: Q.1.its).length c
          rw [List.length_cons]
          rcases List.mem_cons.1 (show c ∈ (⟨f a, (Q.2 : Int), []⟩ : Ic) :: Q.1.its from hc) with rfl | hc
          · exact ⟨hfa.1, by show f a ≤ 255; omega, h0.2.1, Int.natCast_nonneg _, by show (Q.2 : Int) ≤ ((Q.1.its.length + 1 : Nat) : Int); omega, fun _ => rfl, fun e => absurd hm1 e⟩
          · exact (k2 c hc).mono (by omega)
        · rw [if_pos hc] at h; exact absurd h hc
    · rw [if_pos hd] at h; exact absurd h hd

/-- Where none is read, the place is within. -/
theorem hdC_pl {f : Nat → Int} {a e d : Nat} (ha : a ≤ e) (h : (hdC f a e d).1 ≠ 0) : 0 ≤ (hdC f a e d).2 ∧ (hdC f a e d).2 ≤ e := by
  unfold hdC at *
  by_cases c1 : e ≤ a
  · rw [if_pos c1]; show 0 ≤ (a : Int) ∧ (a : Int) ≤ e; omega
  rw [if_neg c1] at h ⊢
  by_cases c2 : f a % 32 = 31
  · rw [if_pos c2]; show 0 ≤ (a : Int) ∧ (a : Int) ≤ e; omega
  rw [if_neg c2] at h ⊢
  by_cases c3 : 12 < d
  · rw [if_pos c3]; show 0 ≤ (a : Int) ∧ (a : Int) ≤ e; omega
  rw [if_neg c3] at h ⊢
  by_cases c4 : (lnR f a e).2.2 = 2
  · rw [if_pos c4]; show 0 ≤ (a : Int) ∧ (a : Int) ≤ e; omega
  rw [if_neg c4] at h ⊢
  by_cases c5 : (lnR f a e).2.2 = 4
  · rw [if_pos c5]; show 0 ≤ (a : Int) + 1 ∧ (a : Int) + 1 ≤ e; omega
  rw [if_neg c5] at h ⊢
  by_cases c6 : e < (lnR f a e).2.1 + (lnR f a e).1
  · rw [if_pos c6]; show 0 ≤ (a : Int) ∧ (a : Int) ≤ e; omega
  · rw [if_neg c6] at h; exact absurd rfl h

theorem rdK_pl {t : Nat} {rd : Nat → Rdr} (hn : ∀ a, (rd a).code = 0 → (rd a).nx ≤ t) (h : ∀ a, a ≤ t → (rd a).code ≠ 0 → 0 ≤ (rd a).pl ∧ (rd a).pl ≤ t) : ∀ m a, a ≤ t → (rdK rd t m a).1.code ≠ 0 → 0 ≤ (rdK rd t m a).1.pl ∧ (rdK rd t m a).1.pl ≤ t
  | 0, a, _, hc => absurd rfl hc
  | m + 1, a, ha, hc => by
    rw [rdK] at hc ⊢
    by_cases hle : t ≤ a
    · rw [if_pos hle] at hc; exact absurd rfl hc
    · rw [if_neg hle] at hc ⊢
      by_cases e1 : (rd a).code = 0
      · rw [if_neg (fun k => k e1)] at hc ⊢
        by_cases e2 : (rdK rd t m (rd a).nx).1.code = 0
        · rw [if_neg (fun k => k e2)] at hc; exact absurd rfl hc
        · rw [if_pos e2]
          exact rdK_pl hn h m _ (hn a e1) e2
      · rw [if_pos e1]
        exact h a ha e1

theorem rdT_pl (f : Nat → Int) : ∀ k a e d, a ≤ e → (rdT f k a e d).code ≠ 0 → 0 ≤ (rdT f k a e d).pl ∧ (rdT f k a e d).pl ≤ e
  | 0, a, e, d, ha, _ => by show 0 ≤ (a : Int) ∧ (a : Int) ≤ e; omega
  | k + 1, a, e, d, ha, h => by
    rw [rdT] at h ⊢
    by_cases hd : (hdC f a e d).1 = 0
    · rw [if_neg (fun h => h hd)] at h ⊢
      have h0 := hdC_ok hd
      by_cases hm : mdT (f a) = false
      · rw [if_pos hm] at h; exact absurd rfl h
      · rw [if_neg hm] at h ⊢
        have K := rdK_pl (t := hdE f a e) (rd := fun x => rdT f k x (hdE f a e) (d + 1)) (fun x hx => (rdT_nx f k x (hdE f a e) (d + 1) hx).2) (fun x hx hc => rdT_pl f k x (hdE f a e) (d + 1) hx hc) (hdE f a e - hdS f a e) (hdS f a e) h0.2.2.2.2.2.2
        generalize rdK (fun x => rdT f k x (hdE f a e) (d + 1)) (hdE f a e) (hdE f a e - hdS f a e) (hdS f a e) = Q at K h ⊢
        by_cases hc : Q.1.code = 0
        · rw [if_neg (fun h => h hc)] at h; exact absurd rfl h
        · rw [if_pos hc]
          have k1 := K hc
          show 0 ≤ Q.1.pl ∧ Q.1.pl ≤ e
          omega
    · rw [if_pos hd]
      exact hdC_pl ha hd

/-- Where ReadDer tells a fault it tells no items, and a place that is within. -/
theorem rdA_fault (f : Nat → Int) (bn : Nat) (h : (rdA f bn).2.1 ≠ 0) : (rdA f bn).1 = [] ∧ 0 ≤ (rdA f bn).2.2 ∧ (rdA f bn).2.2 ≤ bn := by
  unfold rdA at *
  by_cases h1 : 4000 < bn
  · rw [if_pos h1]; exact ⟨rfl, Int.le_refl _, Int.natCast_nonneg _⟩
  rw [if_neg h1] at h ⊢
  by_cases h2 : (rdT f 14 0 bn 0).code = 0
  · rw [if_neg (fun h => h h2)] at h ⊢
    have e2 := (rdT_nx f 14 0 bn 0 h2).2
    by_cases h3 : 300 < (rdT f 14 0 bn 0).its.length
    · rw [if_pos h3]; exact ⟨rfl, Int.le_refl _, Int.natCast_nonneg _⟩
    rw [if_neg h3] at h ⊢
    by_cases h4 : (rdT f 14 0 bn 0).nx < bn
    · rw [if_pos h4]; exact ⟨rfl, Int.natCast_nonneg _, by show ((rdT f 14 0 bn 0).nx : Int) ≤ bn; omega⟩
    · rw [if_neg h4] at h; exact absurd rfl h
  · rw [if_pos h2]
    have := rdT_pl f 14 0 bn 0 (Nat.zero_le _) h2
    exact ⟨rfl, this.1, this.2⟩

/-- Where it tells none, its items are written as just these bytes. -/
theorem rdA_back (f : Nat → Int) (bn : Nat) (hb : ∀ i, i < bn → 0 ≤ f i ∧ f i < 256) (h : (rdA f bn).2.1 = 0) (L : List It) (hL : L.map ct = (rdA f bn).1) :
    (rdA f bn).2.2 = 0 ∧ wdB (fun i => L.getD i dI) L.length = true ∧ wdL (fun i => L.getD i dI) L.length = byF f 0 bn := by
  by_cases h1 : 4000 < bn
  · exfalso; unfold rdA at h; rw [if_pos h1] at h; exact absurd h (by show ¬ (1 : Int) = 0; decide)
  by_cases h2 : (rdT f 14 0 bn 0).code = 0
  · by_cases h3 : 300 < (rdT f 14 0 bn 0).its.length
    · exfalso; unfold rdA at h; rw [if_neg h1, if_neg (fun h => h h2), if_pos h3] at h; exact absurd h (by show ¬ (7 : Int) = 0; decide)
    by_cases h4 : (rdT f 14 0 bn 0).nx < bn
    · exfalso; unfold rdA at h; rw [if_neg h1, if_neg (fun h => h h2), if_neg h3, if_pos h4] at h; exact absurd h (by show ¬ (5 : Int) = 0; decide)
    have hA : rdA f bn = ((rdT f 14 0 bn 0).its, 0, 0) := by unfold rdA; rw [if_neg h1, if_neg (fun h => h h2), if_neg h3, if_neg h4]
    rw [hA] at hL ⊢
    have hL' : L.map ct = (rdT f 14 0 bn 0).its := hL
    have hn := (rdT_nx f 14 0 bn 0 h2).2
    have hnx : (rdT f 14 0 bn 0).nx = bn := by omega
    have hlen : L.length = (rdT f 14 0 bn 0).its.length := by rw [← hL', List.length_map]
    have hat : ∀ i, i < L.length → ct (L.getD i dI) ∈ (rdT f 14 0 bn 0).its := fun i hi => by
      rw [← hL', List.getD_eq_getElem?_getD, List.getElem?_eq_getElem hi]
      exact List.mem_map.2 ⟨_, List.getElem_mem hi, rfl⟩
    have hAt : AtI (fun i => L.getD i dI) 0 (rdT f 14 0 bn 0).its := fun j c hj => by
      rw [← hL', List.getElem?_map] at hj
      show ct (L.getD (0 + j) dI) = c
      rw [Nat.zero_add, List.getD_eq_getElem?_getD]
      cases hx : L[j]? with
      | none => rw [hx] at hj; simp at hj
      | some t => rw [hx] at hj; simp at hj ⊢; exact hj
    obtain ⟨g1, g2⟩ := rdT_good f 14 0 bn 0 hb h2
    obtain ⟨b1, b2⟩ := item_back f (fun i => L.getD i dI) L.length 13 0 bn 0 rfl hb h2 0 hAt (by show 0 + (rdT f 14 0 bn 0).its.length ≤ L.length; omega)
    rw [show (rdT f (13 + 1) 0 bn 0).its.length = L.length from hlen.symm, Nat.zero_add] at b1
    rw [show (rdT f (13 + 1) 0 bn 0).nx = bn from hnx, Nat.sub_zero] at b2
    have ht : treeV (fun i => L.getD i dI) L.length = true := by
      unfold treeV
      rw [decide_eq_true_eq]
      refine ⟨by omega, by omega, fun i hi => ?_, b1⟩
      have g := g2 _ (hat i hi)
      refine ⟨g.1, g.2.1, g.2.2.1, g.2.2.2.1, by have : (L.getD i dI).kid ≤ ((rdT f 14 0 bn 0).its.length : Int) := g.2.2.2.2.1; show (L.getD i dI).kid ≤ 300; omega, fun e => ?_, g.2.2.2.2.2.2⟩
      have := congrArg List.length (g.2.2.2.2.2.1 e)
      simpa [ct] using this
    have hB : wdB (fun i => L.getD i dI) L.length = true := by
      unfold wdB
      rw [ht, b2, byF_len]
      simp
      omega
    refine ⟨rfl, hB, ?_⟩
    unfold wdL
    rw [hB, if_pos rfl, b2]
  · exfalso; unfold rdA at h; rw [if_neg h1, if_pos h2] at h; exact h2 h
end

section
set_option linter.unusedVariables false
set_option linter.unusedSimpArgs false

theorem lgL_rng {L : Nat} (hL : L < 65536) : ∀ b ∈ lgL L, 0 ≤ b ∧ b < 256 := by
  intro b hb
  unfold lgL at hb
  rw [List.mem_map] at hb
  obtain ⟨j, hj, rfl⟩ := hb
  rw [List.mem_range] at hj
  by_cases c1 : (L : Int) < 128
  · obtain ⟨g1, g2⟩ := lg_low c1
    rw [g1] at hj
    rw [g2 j hj]
    omega
  · by_cases c2 : (L : Int) < 256
    · obtain ⟨g1, g2, g3⟩ := lg_mid (by omega) c2
      rw [g1] at hj
      have h : j = 0 ∨ j = 1 := by omega
      rcases h with rfl | rfl
      · rw [g2]; decide
      · rw [g3]; omega
    · obtain ⟨g1, g2, g3, g4⟩ := lg_high (n := (L : Int)) (by omega) (by omega)
      rw [g1] at hj
      have h : j = 0 ∨ j = 1 ∨ j = 2 := by omega
      rcases h with rfl | rfl | rfl
      · rw [g2]; decide
      · rw [g3]; omega
      · rw [g4]; omega

theorem wrB_rng {G : Nat → List Int} {E : Nat → Int} {s : Int} {N : Nat} (h : ∀ q, 0 ≤ E q → (G q).length ≤ N → ∀ b ∈ G q, 0 ≤ b ∧ b < 256) : ∀ c, 0 ≤ kidsF E c s → (wrB G E s c).length ≤ N → ∀ b ∈ wrB G E s c, 0 ≤ b ∧ b < 256
  | 0, _, _, b, hb => by simp [wrB] at hb
  | c + 1, h0, hl, b, hb => by
    rw [kidsF] at h0
    by_cases hc : kidsF E c s < 0
    · rw [if_pos hc] at h0; omega
    · rw [if_neg hc] at h0
      rw [wrB, List.length_append] at hl
      rw [wrB] at hb
      rcases List.mem_append.1 hb with hb | hb
      · exact wrB_rng h c (by omega) (by omega) b hb
      · exact h _ h0 (by omega) b hb

theorem wrF_rng (x : Nat → It) (n : Nat) (hx : ∀ i, i < n → 0 ≤ (x i).tag ∧ (x i).tag ≤ 255) (hr : ∀ i, i < n → ∀ j, j < (x i).len → 0 ≤ (x i).f j ∧ (x i).f j < 256) : ∀ m i, 0 ≤ endF (fun j => (x j).kid) n m i → (wrF x n m i).length ≤ 65535 → ∀ b ∈ wrF x n m i, 0 ≤ b ∧ b < 256
  | 0, i, h, _, _, _ => by simp [endF] at h
  | m + 1, i, h, hl, b, hb => by
    have hi : i < n := endF_lt h
    rw [endF, if_neg (by omega)] at h
    rw [wrF, List.length_cons, List.length_append] at hl
    rw [wrF] at hb
    rcases List.mem_cons.1 hb with rfl | hb
    · have := hx i hi; omega
    · rcases List.mem_append.1 hb with hb | hb
      · exact lgL_rng (by omega) b hb
      · rw [List.length_append] at hl
        rcases List.mem_append.1 hb with hb | hb
        · unfold boL at hb
          rw [List.mem_map] at hb
          obtain ⟨j, hj, rfl⟩ := hb
          exact hr i hi j (List.mem_range.1 hj)
        · exact wrB_rng (N := 65535) (fun q h1 h2 => wrF_rng x n hx hr m q h1 h2) _ h (by omega) b hb

/-- What is written is bytes. -/
theorem wdL_rng (x : Nat → It) (n : Nat) (hr : ∀ i, i < n → ∀ j, j < (x i).len → 0 ≤ (x i).f j ∧ (x i).f j < 256) : (wdL x n).length ≤ 4000 ∧ ∀ b ∈ wdL x n, 0 ≤ b ∧ b < 256 := by
  unfold wdL
  cases hw : wdB x n
  · exact ⟨Nat.zero_le _, fun b hb => absurd hb List.not_mem_nil⟩
  · rw [if_pos rfl]
    unfold wdB at hw
    rw [Bool.and_eq_true, decide_eq_true_eq] at hw
    obtain ⟨ht, hl⟩ := hw
    have hg := (tree_good ht).2.2
    unfold treeV at ht
    rw [decide_eq_true_eq] at ht
    exact ⟨hl, wrF_rng x n (fun i hi => ⟨(hg i hi).1, (hg i hi).2.1⟩) hr 13 0 (by rw [ht.2.2.2]; omega) (by omega)⟩

/-- As a function of places. -/
def byG (B : List Int) (i : Nat) : Int := B.getD i 0

theorem bl_byG (B : List Int) : bl B = byts (byG B) B.length := by
  unfold bl byts byG
  refine List.ext_getElem (by simp) (fun i h1 h2 => ?_)
  simp only [List.length_map] at h1
  simp [h1]

theorem byG_rng {B : List Int} (h : ∀ b ∈ B, 0 ≤ b ∧ b < 256) : ∀ i, i < B.length → 0 ≤ byG B i ∧ byG B i < 256 := fun i hi => by
  unfold byG
  rw [List.getD_eq_getElem?_getD, List.getElem?_eq_getElem hi]
  exact h _ (List.getElem_mem hi)
end

end Go.Proofs.YtmcdikbcmikihaaDoor
