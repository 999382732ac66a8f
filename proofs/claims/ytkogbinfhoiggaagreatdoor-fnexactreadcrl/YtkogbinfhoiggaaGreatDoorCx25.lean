/- Plain facts: how many bytes an item has. Walks: WriteDer of the model. What is read as a tree is written as just these bytes; in plain numbers. What is read is a right tree; where none is read, the place is within. Plain numbers. A right tree's bytes are read as just that tree; in plain numbers. Walks: the library's iterator slices.Backward over items, for a caller that makes memory of its own in a round. -/
import Derived.Test.YtkogbinfhoiggaaGreatDoorCx24
namespace Go.Proofs.YtkogbinfhoiggaaGreatDoor
set_option linter.unusedVariables false
set_option linter.unusedSimpArgs false
section
open Go.RowKit
def smL (x : Nat → It) (s : Nat) : Nat → Nat
 | 0 => 0
 | c + 1 => smL x s c + (x (s + c)).len
theorem smL_add (x : Nat → It) (s c d : Nat) : smL x s (c + d) = smL x s c + smL x (s + c) d := by
 induction d with
 | zero => rfl
 | succ d ih => rw [← Nat.add_assoc, smL, smL, ih, Nat.add_assoc, Nat.add_assoc]
theorem smL_one (x : Nat → It) (s : Nat) : smL x s 1 = (x s).len := by show 0 + (x (s + 0)).len = _; simp
theorem lgL_len (n : Nat) (h : (n : Int) ≤ 9223372036854775807) : 1 ≤ (lgL n).length ∧ (lgL n).length ≤ 10 := by
 have := lgN_le (n := (n : Int)) (by omega) h
 simpa [lgL] using this
theorem wrB_bounds {x : Nat → It} {g : Nat → List Int} {f : Nat → Int} (hg : ∀ s e : Nat, f s = e → s < e ∧ smL x s (e - s) ≤ (g s).length ∧ (g s).length ≤ smL x s (e - s) + 11 * (e - s)) (s : Nat) :
  ∀ (k e : Nat), kidsF f k (s : Int) = e → s ≤ e ∧ smL x s (e - s) ≤ (wrB g f s k).length ∧ (wrB g f s k).length ≤ smL x s (e - s) + 11 * (e - s)
 | 0, e, h => by
  have : (s : Int) = e := h
  obtain rfl : s = e := by omega
  rw [Nat.sub_self]
  exact ⟨Nat.le_refl _, Nat.le_refl _, Nat.le_refl _⟩
 | k + 1, e, h => by
  have h' : (if kidsF f k (s : Int) < 0 then -1 else f (kidsF f k (s : Int)).toNat) = e := h
  by_cases c : kidsF f k (s : Int) < 0
  ·rw [if_pos c] at h'; omega
  ·rw [if_neg c] at h'
   obtain ⟨z, hz⟩ : ∃ z : Nat, kidsF f k (s : Int) = z := ⟨(kidsF f k (s : Int)).toNat, by omega⟩
   rw [hz, Int.toNat_natCast] at h'
   obtain ⟨a1, a2, a3⟩ := wrB_bounds hg s k z hz
   obtain ⟨b1, b2, b3⟩ := hg z e h'
   have e1 : e - s = (z - s) + (e - z) := by omega
   have e2 : s + (z - s) = z := by omega
   rw [wrB, List.length_append, hz, Int.toNat_natCast, e1, smL_add, e2]
   omega
theorem wrF_bounds (x : Nat → It) (n : Nat) (hb : ∀ i, i < n → (x i).len ≤ 1048576) (hn : n ≤ 1048576) : ∀ (m i e : Nat), endF (fun j => (x j).kid) n m i = e → i < e ∧ smL x i (e - i) ≤ (wrF x n m i).length ∧ (wrF x n m i).length ≤ smL x i (e - i) + 11 * (e - i)
 | 0, i, e, h => by
  have : (-1 : Int) = e := h
  omega
 | m + 1, i, e, h => by
  have hi : i < n := endF_lt (kid := fun j => (x j).kid) (m := m + 1) (by rw [h]; omega)
  have h' : kidsF (endF (fun j => (x j).kid) n m) (x i).kid.toNat ((i : Int) + 1) = e := by
   rw [endF, if_neg (by omega)] at h
   exact h
  obtain ⟨a1, a2, a3⟩ := wrB_bounds (fun s e hs => wrF_bounds x n hb hn m s e hs) (i + 1) (x i).kid.toNat e (by rw [← h']; rfl)
  have e1 : e - i = 1 + (e - (i + 1)) := by omega
  have hen : (e : Int) ≤ n := by rw [← h]; exact (endF_range _ n (m + 1) i).2
  have hbo : (boL (x i)).length = (x i).len := by simp [boL]
  have hL : (wrF x n (m + 1) i).length = 1 + ((lgL ((x i).len + (wrB (wrF x n m) (endF (fun j => (x j).kid) n m) ((i + 1 : Nat) : Int) (x i).kid.toNat).length)).length + ((x i).len + (wrB (wrF x n m) (endF (fun j => (x j).kid) n m) ((i + 1 : Nat) : Int) (x i).kid.toNat).length)) := by
   rw [wrF, List.length_cons, List.length_append, List.length_append, hbo]
   rw [show ((i : Int) + 1) = ((i + 1 : Nat) : Int) from rfl]
   omega
  have hsm : ∀ (s c : Nat), s + c ≤ n → smL x s c ≤ 1048576 * c := fun s c => by
   induction c with
   | zero => intro _; exact Nat.le_refl _
   | succ c ih =>
    intro hc
    have h1 := ih (by omega)
    have h2 := hb (s + c) (by omega)
    rw [smL]
    omega
  have hs := hsm (i + 1) (e - (i + 1)) (by omega)
  obtain ⟨l1, l2⟩ := lgL_len ((x i).len + (wrB (wrF x n m) (endF (fun j => (x j).kid) n m) ((i + 1 : Nat) : Int) (x i).kid.toNat).length) (by have := hb i hi; omega)
  rw [hL, e1, smL_add, smL_one]
  omega
def wdB (x : Nat → It) (n : Nat) : Bool := treeV x n && decide ((wrF x n 13 0).length ≤ 4000)
def wdL (x : Nat → It) (n : Nat) : List Int := if wdB x n then wrF x n 13 0 else []
def GivesWd (w : World) (L : List Int) (ok : Bool) (e : Ending) (w' : World) : Prop := ∃ v, e = .returned (.tuple #[v, .bool ok]) ∧ w'.ownsRow w.heap.size 5 1 v L.length (bl L) ∧ Ext w w'
theorem smL_part (x : Nat → It) {k n : Nat} (h : k < n) : smL x 0 k + (x k).len ≤ smL x 0 n := by
 obtain ⟨d, rfl⟩ : ∃ d, n = k + 1 + d := ⟨n - (k + 1), by omega⟩
 rw [smL_add, smL, Nat.zero_add]
 omega
set_option maxHeartbeats 3200000 in
set_option maxRecDepth 100000 in
theorem specWriteDer_any (a : Option Addr) (b off n cap : Nat) (x : Nat → It) (w : World) (hs : ISeg w a b off n x) (hn : n ≤ 1048576) (hl : ∀ i, i < n → (x i).len ≤ 1048576) :
  Calls Tryz.prog 42 #[.slice a n cap] w fun e w' => GivesWd w (wdL x n) (wdB x n) e w' := by
 have HT := hide (specTree_any a b off n cap x w hs hn)
 have HN : Hid (∀ W, Ext w W → GivesWd w [] false (.returned (.tuple #[.slice (some ⟨W.heap.size, 0, none⟩) 0 0, .bool false])) (W.alloc (.cells #[] 5))) := fun W h => ⟨_, rfl, World.ownsRow_made (base := w.heap.size) (e := 5) (size := 1) W #[] 0 (Below.size h) (by simp) rfl, h.trans (Ext.alloc _ _)⟩
 cases ht : treeV x n
 ·have h1 : wdB x n = false := by unfold wdB; rw [ht]; rfl
  have h2 : wdL x n = [] := by unfold wdL; rw [h1]; rfl
  rw [h1, h2]
  rw [ht] at HT
  clear hs hl ht h1 h2
  go_enter Tryz.func42, Tryz.ntmps42
  go_wp2_with (go_at_call 70; refine HT.out.mono ?_; rintro e w1 ⟨rfl, hE⟩; have HE := hide hE; clear hE)
  go_ret2
  exact HN.out _ HE.out
 ·rw [ht] at HT
  obtain ⟨h1, h300, hg⟩ := tree_good ht
  have hend : endF (fun j => (x j).kid) n 13 0 = n := by
   unfold treeV at ht
   simp only [decide_eq_true_eq] at ht
   exact ht.2.2.2
  obtain ⟨-, wl, wu⟩ := wrF_bounds x n hl hn 13 0 n hend
  rw [Nat.sub_zero] at wl wu
  have hd : wdB x n = decide ((wrF x n 13 0).length ≤ 4000) := by unfold wdB; rw [ht]; rfl
  have Hno : Hid (4000 < (wrF x n 13 0).length → wdB x n = false ∧ wdL x n = []) := fun h => by
   have e : wdB x n = false := by rw [hd]; exact decide_eq_false (by omega)
   exact ⟨e, by unfold wdL; rw [e]; rfl⟩
  have Hyes : Hid ((wrF x n 13 0).length ≤ 4000 → wdB x n = true ∧ wdL x n = wrF x n 13 0) := fun h => by
   have e : wdB x n = true := by rw [hd]; exact decide_eq_true h
   exact ⟨e, by unfold wdL; rw [e]; rfl⟩
  have HWr : Hid (∀ W, (wrF x n 13 0).length ≤ 60000 → Ext w W → Calls Tryz.prog 71 #[.slice a n cap, .int .i64 0] W fun e w' => GivesWr W (wrF x n 13 0) (n : Int) e w') := fun W h hE => by
   have := l7Write_any a b off n cap x w hs hn (fun i hi => by have := hg i hi; unfold itGood at this; omega) (fun i hi => by have := hg i hi; unfold itGood at this; omega) 13 0 W (by omega) (by rw [hend]; omega) h hE
   rw [hend] at this
   exact this
  have Hwl := hide wl
  have Hwu := hide wu
  have HS := hide hs
  have Hl := hide hl
  obtain rfl := hs.at' (by omega)
  generalize wrF x n 13 0 = Lw at *
  generalize wdB x n = ok at *
  generalize wdL x n = Ld at *
  clear hs hl ht hd hend hg wl wu
  go_enter Tryz.func42, Tryz.ntmps42
  go_wp2_with (go_at_call 70; refine HT.out.mono ?_; rintro e w1 ⟨rfl, hE⟩; have HE := hide hE; clear hE)
  clear HT
  go_loop [4, 5] (fun sv iv => ∃ k : Nat, k ≤ n ∧ iv = .int .i64 (k : Int) ∧ sv = .int .i64 (smL x 0 k : Int) ∧ smL x 0 k ≤ 4000 * k) (fun _ iv => n - (intOf iv).toNat)
  case atStart => exact ⟨0, Nat.zero_le _, rfl, rfl, Nat.le_refl _⟩
  case round =>
   obtain ⟨k, hk, rfl, rfl, hsm⟩ := hrel
   by_cases hlt : k < n
   ·have hlt' : (k : Int) < (n : Int) := by omega
    have c1 := (HS.out.of_all HE.out).c1 k hlt
    have hpart := smL_part x hlt
    by_cases hbig : 4000 < (x k).len
    ·have hbig' : (4000 : Int) < ((x k).len : Int) := by omega
     obtain ⟨e1, e2⟩ := Hno.out (by have := Hwl.out; omega)
     subst e1 e2
     clear hpart hsm
     go_wp2
     go_ret2
     exact HN.out _ HE.out
    ·have hbig' : ¬ (4000 : Int) < ((x k).len : Int) := by omega
     have hst : smL x 0 (k + 1) = smL x 0 k + (x k).len := by rw [smL, Nat.zero_add]
     have Hst := hide hst
     have hw1 : wrap64 ((smL x 0 k : Int) + ((x k).len : Int)) = ((smL x 0 k + (x k).len : Nat) : Int) := by unfold wrap64; omega
     have hb2 : smL x 0 k + (x k).len ≤ 4000 * (k + 1) := by omega
     rw [← hst] at hw1 hb2
     generalize hS1 : smL x 0 (k + 1) = S1 at *
     have HS1 := hide hS1
     clear hpart hsm hst hbig hS1
     go_wp2
     go_round
     case rel => exact ⟨k + 1, hlt, by clear hw1; go_num, (by rw [HS1.out, ← hw1]), by rw [HS1.out]; exact hb2⟩
     case measure => clear hw1; simp [intOf]; omega
   ·obtain rfl : k = n := by omega
    have hlt' : ¬ (k : Int) < (k : Int) := by omega
    have hwl := Hwl.out
    have hwu := Hwu.out
    by_cases hbig : 4000 < smL x 0 k
    ·have hbig' : (4000 : Int) < (smL x 0 k : Int) := by omega
     obtain ⟨e1, e2⟩ := Hno.out (by omega)
     subst e1 e2
     generalize smL x 0 k = S0 at *
     clear hbig hwl hwu hsm
     go_wp2
     go_ret2
     exact HN.out _ HE.out
    ·have hbig' : ¬ (4000 : Int) < (smL x 0 k : Int) := by omega
     have HC := hide (HWr.out w1 (by omega) HE.out)
     have hl2 : Lw.length ≤ 60000 := by omega
     generalize smL x 0 k = S0 at *
     clear hbig hwl hwu hsm HWr
     go_wp2_with fail
     refine HC.out.mono ?_
     rintro e w3 ⟨v, rfl, hO, hE3⟩
     have HE3 := hide (HE.out.trans hE3)
     have HO := hide (owns_mono hO (Below.size HE.out))
     obtain ⟨va, vg, vc, rfl⟩ : ∃ va vg vc, v = .slice va Lw.length vc := by
      rw [bl_byts] at hO
      obtain ⟨a1, g1, c1, rfl, -⟩ := owns_seg hO
      exact ⟨a1, g1, c1, rfl⟩
     clear hO hE3 HC
     by_cases h4 : Lw.length ≤ 4000
     ·have h4' : ¬ (4000 : Int) < (Lw.length : Int) := by omega
      obtain ⟨e1, e2⟩ := Hyes.out h4
      subst e1 e2
      clear h4
      go_wp2
      go_ret2
      exact ⟨_, rfl, HO.out, HE3.out⟩
     ·have h4' : (4000 : Int) < (Lw.length : Int) := by omega
      obtain ⟨e1, e2⟩ := Hno.out (by omega)
      subst e1 e2
      clear h4
      go_wp2
      go_ret2
      exact HN.out _ HE3.out
end
section
def byF (f : Nat → Int) (a c : Nat) : List Int := (List.range c).map (fun i => f (a + i))
theorem byF_len (f : Nat → Int) (a c : Nat) : (byF f a c).length = c := by simp [byF]
theorem byF_app (f : Nat → Int) (a c d : Nat) : byF f a (c + d) = byF f a c ++ byF f (a + c) d := by
 unfold byF
 rw [List.range_add, List.map_append, List.map_map]
 congr 1
 apply List.map_congr_left
 intro i _
 show f (a + (c + i)) = f (a + c + i)
 rw [Nat.add_assoc]
theorem byF_one (f : Nat → Int) (a c : Nat) : byF f a (c + 1) = f a :: byF f (a + 1) c := by
 rw [Nat.add_comm, byF_app]
 rfl
theorem lnR_back {f : Nat → Int} {a e : Nat} (hb : ∀ i, i < e → 0 ≤ f i ∧ f i < 256) (h2 : (lnR f a e).2.2 ≠ 2) (h4 : (lnR f a e).2.2 ≠ 4) : lgL (lnR f a e).1 = byF f (a + 1) ((lnR f a e).2.1 - (a + 1)) := by
 unfold lnR at *
 by_cases c1 : e ≤ a + 1
 ·rw [if_pos c1] at h2; exact absurd rfl h2
 rw [if_neg c1] at h2 h4 ⊢
 have b1 := hb (a + 1) (by omega)
 by_cases c2 : f (a + 1) < 128
 ·rw [if_pos c2]
  have hc : (((f (a + 1)).toNat : Nat) : Int) = f (a + 1) := by omega
  obtain ⟨g1, g2⟩ := lg_low (n := (((f (a + 1)).toNat : Nat) : Int)) (by omega)
  show (List.range (lgN (((f (a + 1)).toNat : Nat) : Int))).map (lgF (((f (a + 1)).toNat : Nat) : Int)) = byF f (a + 1) (a + 2 - (a + 1))
  rw [g1, show a + 2 - (a + 1) = 1 by omega]
  show [lgF _ 0] = [f (a + 1 + 0)]
  rw [g2 0 (by omega), hc, Nat.add_zero]
 rw [if_neg c2] at h2 h4 ⊢
 by_cases c3 : f (a + 1) = 128 ∨ 130 < f (a + 1)
 ·rw [if_pos c3] at h4; exact absurd rfl h4
 rw [if_neg c3] at h2 h4 ⊢
 by_cases c4 : (e : Int) ≤ a + 1 + (f (a + 1) - 128)
 ·rw [if_pos c4] at h2; exact absurd rfl h2
 rw [if_neg c4] at h2 h4 ⊢
 have b2 := hb (a + 2) (by omega)
 by_cases c5 : f (a + 1) = 129
 ·rw [if_pos c5] at h2 h4 ⊢
  by_cases c6 : f (a + 2) < 128
  ·rw [if_pos c6] at h4; exact absurd rfl h4
  ·rw [if_neg c6]
   have hc : (((f (a + 2)).toNat : Nat) : Int) = f (a + 2) := by omega
   obtain ⟨g1, g2, g3⟩ := lg_mid (n := (((f (a + 2)).toNat : Nat) : Int)) (by omega) (by omega)
   show (List.range (lgN (((f (a + 2)).toNat : Nat) : Int))).map (lgF (((f (a + 2)).toNat : Nat) : Int)) = byF f (a + 1) (a + 3 - (a + 1))
   rw [g1, show a + 3 - (a + 1) = 2 by omega]
   show [lgF _ 0, lgF _ 1] = [f (a + 1 + 0), f (a + 1 + 1)]
   rw [g2, g3, hc, Nat.add_zero, c5]
 ·rw [if_neg c5] at h2 h4 ⊢
  have b3 := hb (a + 3) (by omega)
  by_cases c6 : 256 * f (a + 2) + f (a + 3) < 256
  ·rw [if_pos c6] at h4; exact absurd rfl h4
  ·rw [if_neg c6]
   have hc : (((256 * f (a + 2) + f (a + 3)).toNat : Nat) : Int) = 256 * f (a + 2) + f (a + 3) := by omega
   obtain ⟨g1, g2, g3, g4⟩ := lg_high (n := (((256 * f (a + 2) + f (a + 3)).toNat : Nat) : Int)) (by omega) (by omega)
   show (List.range (lgN (((256 * f (a + 2) + f (a + 3)).toNat : Nat) : Int))).map (lgF (((256 * f (a + 2) + f (a + 3)).toNat : Nat) : Int)) = byF f (a + 1) (a + 4 - (a + 1))
   rw [g1, show a + 4 - (a + 1) = 3 by omega]
   show [lgF _ 0, lgF _ 1, lgF _ 2] = [f (a + 1 + 0), f (a + 1 + 1), f (a + 1 + 2)]
   rw [g2, g3, g4, hc, Nat.add_zero, show a + 1 + 1 = a + 2 from rfl, show a + 1 + 2 = a + 3 from rfl]
   have c7 : f (a + 1) = 130 := by omega
   rw [c7, show (256 * f (a + 2) + f (a + 3)) / 256 = f (a + 2) by omega, show (256 * f (a + 2) + f (a + 3)) % 256 = f (a + 3) by omega]
theorem wrB_front (G : Nat → List Int) (E : Nat → Int) (hE : ∀ i, -1 ≤ E i) (q : Nat) : ∀ c, wrB G E (q : Int) (c + 1) = G q ++ wrB G E (E q) c
 | 0 => by
  show [] ++ G ((q : Int)).toNat = G q ++ []
  simp
 | c + 1 => by
  rw [wrB, wrB_front G E hE q c, kidsF_front E hE q c, List.append_assoc]
  rfl
def AtI (x : Nat → It) (q : Nat) (its : List Ic) : Prop := ∀ j c, its[j]? = some c → ct (x (q + j)) = c
theorem AtI.left {x : Nat → It} {q : Nat} {A B : List Ic} (h : AtI x q (A ++ B)) : AtI x q A := fun j c hj => h j c (by rw [List.getElem?_append_left (List.getElem?_eq_some_iff.1 hj).1]; exact hj)
theorem AtI.right {x : Nat → It} {q : Nat} {A B : List Ic} (h : AtI x q (A ++ B)) : AtI x (q + A.length) B := fun j c hj => by
 have := h (A.length + j) c (by rw [List.getElem?_append_right (by omega), Nat.add_sub_cancel_left]; exact hj)
 rwa [← Nat.add_assoc] at this
theorem AtI.tail {x : Nat → It} {q : Nat} {c0 : Ic} {B : List Ic} (h : AtI x q (c0 :: B)) : ct (x q) = c0 ∧ AtI x (q + 1) B := ⟨h 0 c0 rfl, fun j c hj => by
 have := h (j + 1) c (by simpa using hj)
 rwa [show q + 1 + j = q + (j + 1) by omega]⟩
theorem boL_ct (x : It) : boL x = (ct x).bd := rfl
theorem rdK_end {t : Nat} {rd : Nat → Rdr} (h : ∀ a, (rd a).code = 0 → a + 2 ≤ (rd a).nx ∧ (rd a).nx ≤ t) : ∀ m a, a ≤ t → t - a ≤ m → (rdK rd t m a).1.code = 0 → (rdK rd t m a).1.nx = t
 | 0, a, h1, h2, _ => by show a = t; omega
 | m + 1, a, h1, h2, hc => by
  rw [rdK] at hc ⊢
  by_cases hle : t ≤ a
  ·rw [if_pos hle]; show a = t; omega
  ·rw [if_neg hle] at hc ⊢
   by_cases e1 : (rd a).code = 0
   ·rw [if_neg (fun k => k e1)] at hc ⊢
    by_cases e2 : (rdK rd t m (rd a).nx).1.code = 0
    ·rw [if_neg (fun k => k e2)]
     have := h a e1
     exact rdK_end h m (rd a).nx this.2 (by omega) e2
    ·rw [if_pos e2] at hc; exact absurd hc e2
   ·rw [if_pos e1] at hc; exact absurd hc e1
section
variable {f : Nat → Int} {x : Nat → It} {n t : Nat} {rd : Nat → Rdr} {G : Nat → List Int} {E : Nat → Int}
theorem kids_back (hE : ∀ i, -1 ≤ E i) (hn : ∀ a, (rd a).code = 0 → a + 2 ≤ (rd a).nx ∧ (rd a).nx ≤ t)
  (hI : ∀ a, (rd a).code = 0 → ∀ q, AtI x q (rd a).its → q + (rd a).its.length ≤ n → E q = ((q + (rd a).its.length : Nat) : Int) ∧ G q = byF f a ((rd a).nx - a)) :
  ∀ m a, (rdK rd t m a).1.code = 0 → ∀ q, AtI x q (rdK rd t m a).1.its → q + (rdK rd t m a).1.its.length ≤ n →
   kidsF E (rdK rd t m a).2 (q : Int) = ((q + (rdK rd t m a).1.its.length : Nat) : Int) ∧ wrB G E (q : Int) (rdK rd t m a).2 = byF f a ((rdK rd t m a).1.nx - a) ∧ a ≤ (rdK rd t m a).1.nx
 | 0, a, _, q, _, _ => by
  refine ⟨?_, ?_, Nat.le_refl _⟩
  ·show (q : Int) = ((q + 0 : Nat) : Int); rfl
  ·show [] = byF f a (a - a); rw [Nat.sub_self]; rfl
 | m + 1, a, hc, q, hA, hq => by
  rw [rdK] at hc hA hq ⊢
  by_cases hle : t ≤ a
  ·rw [if_pos hle]
   refine ⟨?_, ?_, Nat.le_refl _⟩
   ·show (q : Int) = ((q + 0 : Nat) : Int); rfl
   ·show [] = byF f a (a - a); rw [Nat.sub_self]; rfl
  ·rw [if_neg hle] at hc hA hq ⊢
   by_cases e1 : (rd a).code = 0
   ·rw [if_neg (fun k => k e1)] at hc hA hq ⊢
    by_cases e2 : (rdK rd t m (rd a).nx).1.code = 0
    ·rw [if_neg (fun k => k e2)] at hA hq ⊢
     have hA' : AtI x q ((rd a).its ++ (rdK rd t m (rd a).nx).1.its) := hA
     have hq' : q + ((rd a).its ++ (rdK rd t m (rd a).nx).1.its).length ≤ n := hq
     rw [List.length_append] at hq'
     obtain ⟨i1, i2⟩ := hI a e1 q hA'.left (by omega)
     obtain ⟨k1, k2, k3⟩ := kids_back hE hn hI m (rd a).nx e2 (q + (rd a).its.length) hA'.right (by omega)
     have h1 := hn a e1
     refine ⟨?_, ?_, by show a ≤ (rdK rd t m (rd a).nx).1.nx; omega⟩
     ·show kidsF E ((rdK rd t m (rd a).nx).2 + 1) (q : Int) = ((q + ((rd a).its ++ (rdK rd t m (rd a).nx).1.its).length : Nat) : Int)
      rw [kidsF_front E hE, i1, k1, List.length_append, Nat.add_assoc]
     ·show wrB G E (q : Int) ((rdK rd t m (rd a).nx).2 + 1) = byF f a ((rdK rd t m (rd a).nx).1.nx - a)
      rw [wrB_front G E hE, i1, i2, k2, show (rdK rd t m (rd a).nx).1.nx - a = ((rd a).nx - a) + ((rdK rd t m (rd a).nx).1.nx - (rd a).nx) by omega, byF_app, show a + ((rd a).nx - a) = (rd a).nx by omega]
    ·rw [if_pos e2] at hc; exact absurd hc e2
   ·rw [if_pos e1] at hc; exact absurd hc e1
end
theorem hd_bytes {f : Nat → Int} {a e d : Nat} (hb : ∀ i, i < e → 0 ≤ f i ∧ f i < 256) (hd : (hdC f a e d).1 = 0) : lgL (hdE f a e - hdS f a e) = byF f (a + 1) (hdS f a e - (a + 1)) := by
 have h0 := hdC_ok hd
 have h1 := lnR_back (a := a) hb (by rw [h0.2.2.2.1]; decide) (by rw [h0.2.2.2.1]; decide)
 have h2 : hdE f a e - hdS f a e = (lnR f a e).1 := by unfold hdE hdS; omega
 rw [h2]
 exact h1
set_option maxRecDepth 100000 in
theorem item_back (f : Nat → Int) (x : Nat → It) (n : Nat) : ∀ k a e d, d + (k + 1) = 14 → (∀ i, i < e → 0 ≤ f i ∧ f i < 256) → (rdT f (k + 1) a e d).code = 0 → ∀ q, AtI x q (rdT f (k + 1) a e d).its → q + (rdT f (k + 1) a e d).its.length ≤ n →
  endF (fun j => (x j).kid) n k q = ((q + (rdT f (k + 1) a e d).its.length : Nat) : Int) ∧ wrF x n k q = byF f a ((rdT f (k + 1) a e d).nx - a) := by
 intro k
 induction k with
 | zero =>
  intro a e d hd hb hc
  exfalso
  have hd' : (hdC f a e d).1 ≠ 0 := fun h => by have := (hdC_ok h).2.2.1; omega
  rw [rdT, if_pos hd'] at hc
  exact hd' hc
 | succ k ih =>
  intro a e d hdk hb hc q hA hq
  rw [rdT] at hc hA hq ⊢
  by_cases hd : (hdC f a e d).1 = 0
  ·rw [if_neg (fun h => h hd)] at hc hA hq ⊢
   have h0 := hdC_ok hd
   have hh := hd_bytes hb hd
   have split : byF f a (hdE f a e - a) = f a :: (byF f (a + 1) (hdS f a e - (a + 1)) ++ byF f (hdS f a e) (hdE f a e - hdS f a e)) := by
    rw [show hdE f a e - a = ((hdS f a e - (a + 1)) + (hdE f a e - hdS f a e)) + 1 by omega, byF_one, byF_app, show a + 1 + (hdS f a e - (a + 1)) = hdS f a e by omega]
   by_cases hm : mdT (f a) = false
   ·rw [if_pos hm] at hA hq ⊢
    obtain ⟨e1, -⟩ := AtI.tail hA
    have hq1 : q + 1 ≤ n := hq
    have e2 : (x q).tag = f a := congrArg Ic.tag e1
    have e3 : (x q).kid = 0 := congrArg Ic.kid e1
    have e4 : boL (x q) = byF f (hdS f a e) (hdE f a e - hdS f a e) := by
     rw [boL_ct, e1]
     show (if mdT (f a) then [] else (List.range (hdE f a e - hdS f a e)).map (fun i => f (hdS f a e + i))) = _
     rw [hm]
     rfl
    refine ⟨?_, ?_⟩
    ·rw [endF, if_neg (by omega)]
     show kidsF (endF (fun j => (x j).kid) n k) ((x q).kid).toNat ((q : Int) + 1) = ((q + 1 : Nat) : Int)
     rw [e3, Int.toNat_zero, kidsF]
     omega
    ·rw [wrF, e3, e2, e4, Int.toNat_zero, wrB, List.append_nil, byF_len, hh]
     exact split.symm
   ·rw [if_neg hm] at hc hA hq ⊢
    have K := kids_back (f := f) (x := x) (n := n) (t := hdE f a e) (rd := fun y => rdT f (k + 1) y (hdE f a e) (d + 1)) (G := wrF x n k) (E := endF (fun j => (x j).kid) n k) (fun i => (endF_range _ n k i).1) (fun y hy => rdT_nx f (k + 1) y (hdE f a e) (d + 1) hy) (fun y hy q' h1 h2 => ih y (hdE f a e) (d + 1) (by omega) (fun i hi => hb i (by omega)) hy q' h1 h2) (hdE f a e - hdS f a e) (hdS f a e)
    have N := rdK_end (t := hdE f a e) (rd := fun y => rdT f (k + 1) y (hdE f a e) (d + 1)) (fun y hy => rdT_nx f (k + 1) y (hdE f a e) (d + 1) hy) (hdE f a e - hdS f a e) (hdS f a e) h0.2.2.2.2.2.2 (Nat.le_refl _)
    generalize rdK (fun y => rdT f (k + 1) y (hdE f a e) (d + 1)) (hdE f a e) (hdE f a e - hdS f a e) (hdS f a e) = Q at K N hc hA hq ⊢
    by_cases hQ : Q.1.code = 0
    ·rw [if_neg (fun h => h hQ)] at hA hq ⊢
     obtain ⟨e1, hA1⟩ := AtI.tail hA
     have hq1 : q + (Q.1.its.length + 1) ≤ n := hq
     have e2 : (x q).tag = f a := congrArg Ic.tag e1
     have e3 : (x q).kid = (Q.2 : Int) := congrArg Ic.kid e1
     have e4 : boL (x q) = [] := by rw [boL_ct, e1]
     obtain ⟨k1, k2, k3⟩ := K hQ (q + 1) hA1 (by omega)
     have hN := N hQ
     have hq2 : ((q : Int) + 1) = ((q + 1 : Nat) : Int) := by omega
     refine ⟨?_, ?_⟩
     ·rw [endF, if_neg (by omega)]
      show kidsF (endF (fun j => (x j).kid) n k) ((x q).kid).toNat ((q : Int) + 1) = ((q + (Q.1.its.length + 1) : Nat) : Int)
      rw [e3, Int.toNat_natCast, hq2, k1]
      omega
     ·rw [wrF, e3, e2, e4, Int.toNat_natCast, hq2, k2, List.nil_append, byF_len, hN, hh]
      exact split.symm
    ·rw [if_pos hQ] at hc; exact absurd hc hQ
  ·rw [if_pos hd] at hc
   exact absurd hc hd
end
section
def gdC (N : Nat) (c : Ic) : Prop := 0 ≤ c.tag ∧ c.tag ≤ 255 ∧ c.tag % 32 ≠ 31 ∧ 0 ≤ c.kid ∧ c.kid ≤ N ∧ (c.tag / 32 % 2 = 1 → c.bd = []) ∧ (c.tag / 32 % 2 ≠ 1 → c.kid = 0)
theorem gdC.mono {N M : Nat} {c : Ic} (h : gdC N c) (k : N ≤ M) : gdC M c := ⟨h.1, h.2.1, h.2.2.1, h.2.2.2.1, by have := h.2.2.2.2.1; omega, h.2.2.2.2.2⟩
theorem rdK_good {t : Nat} {rd : Nat → Rdr} (h : ∀ a, (rd a).code = 0 → 1 ≤ (rd a).its.length ∧ ∀ c ∈ (rd a).its, gdC (rd a).its.length c) : ∀ m a, (rdK rd t m a).1.code = 0 → (rdK rd t m a).2 ≤ (rdK rd t m a).1.its.length ∧ ∀ c ∈ (rdK rd t m a).1.its, gdC (rdK rd t m a).1.its.length c
 | 0, a, _ => ⟨Nat.le_refl _, fun c hc => by cases hc⟩
 | m + 1, a, hc => by
  rw [rdK] at hc ⊢
  by_cases hle : t ≤ a
  ·rw [if_pos hle]
   exact ⟨Nat.le_refl _, fun c hc => by cases hc⟩
  ·rw [if_neg hle] at hc ⊢
   by_cases e1 : (rd a).code = 0
   ·rw [if_neg (fun k => k e1)] at hc ⊢
    by_cases e2 : (rdK rd t m (rd a).nx).1.code = 0
    ·rw [if_neg (fun k => k e2)]
     have h1 := h a e1
     have h2 := rdK_good h m (rd a).nx e2
     show (rdK rd t m (rd a).nx).2 + 1 ≤ ((rd a).its ++ (rdK rd t m (rd a).nx).1.its).length ∧ ∀ c ∈ (rd a).its ++ (rdK rd t m (rd a).nx).1.its, gdC ((rd a).its ++ (rdK rd t m (rd a).nx).1.its).length c
     rw [List.length_append]
     refine ⟨by omega, fun c hc => ?_⟩
     rcases List.mem_append.1 hc with hc | hc
     ·exact (h1.2 c hc).mono (by omega)
     ·exact (h2.2 c hc).mono (by omega)
    ·rw [if_pos e2] at hc; exact absurd hc e2
   ·rw [if_pos e1] at hc; exact absurd hc e1
theorem mdT_iff (t : Int) : mdT t = true ↔ t / 32 % 2 = 1 := by unfold mdT; exact decide_eq_true_iff
theorem rdT_good (f : Nat → Int) : ∀ k a e d, (∀ i, i < e → 0 ≤ f i ∧ f i < 256) → (rdT f k a e d).code = 0 → 1 ≤ (rdT f k a e d).its.length ∧ ∀ c ∈ (rdT f k a e d).its, gdC (rdT f k a e d).its.length c
 | 0, a, e, d, _, h => by simp [rdT] at h
 | k + 1, a, e, d, hb, h => by
  rw [rdT] at h ⊢
  by_cases hd : (hdC f a e d).1 = 0
  ·rw [if_neg (fun h => h hd)] at h ⊢
   have h0 := hdC_ok hd
   have hfa := hb a h0.1
   by_cases hm : mdT (f a) = false
   ·rw [if_pos hm]
    have hm' : ¬ f a / 32 % 2 = 1 := fun e => by rw [(mdT_iff _).2 e] at hm; cases hm
    refine ⟨Nat.le_refl _, fun c hc => ?_⟩
    rw [List.mem_singleton.1 hc]
    exact ⟨hfa.1, by show f a ≤ 255; omega, h0.2.1, Int.le_refl _, by show (0 : Int) ≤ ((1 : Nat) : Int); omega, fun e => absurd e hm', fun _ => rfl⟩
   ·rw [if_neg hm] at h ⊢
    have hm1 : f a / 32 % 2 = 1 := (mdT_iff _).1 (by simpa using hm)
    have K := rdK_good (t := hdE f a e) (rd := fun x => rdT f k x (hdE f a e) (d + 1)) (fun x hx => rdT_good f k x (hdE f a e) (d + 1) (fun i hi => hb i (by omega)) hx) (hdE f a e - hdS f a e) (hdS f a e)
    generalize rdK (fun x => rdT f k x (hdE f a e) (d + 1)) (hdE f a e) (hdE f a e - hdS f a e) (hdS f a e) = Q at K h ⊢
    by_cases hc : Q.1.code = 0
    ·rw [if_neg (fun h => h hc)]
     obtain ⟨k1, k2⟩ := K hc
     refine ⟨by show 1 ≤ (_ :: Q.1.its).length; rw [List.length_cons]; omega, fun c hc => ?_⟩
     show gdC ((⟨f a, (Q.2 : Int), []⟩ : Ic) :: Q.1.its).length c
     rw [List.length_cons]
     rcases List.mem_cons.1 (show c ∈ (⟨f a, (Q.2 : Int), []⟩ : Ic) :: Q.1.its from hc) with rfl | hc
     ·exact ⟨hfa.1, by show f a ≤ 255; omega, h0.2.1, Int.natCast_nonneg _, by show (Q.2 : Int) ≤ ((Q.1.its.length + 1 : Nat) : Int); omega, fun _ => rfl, fun e => absurd hm1 e⟩
     ·exact (k2 c hc).mono (by omega)
    ·rw [if_pos hc] at h; exact absurd h hc
  ·rw [if_pos hd] at h; exact absurd h hd
theorem rdA_back (f : Nat → Int) (bn : Nat) (hb : ∀ i, i < bn → 0 ≤ f i ∧ f i < 256) (h : (rdA f bn).2.1 = 0) (L : List It) (hL : L.map ct = (rdA f bn).1) :
  (rdA f bn).2.2 = 0 ∧ wdB (fun i => L.getD i dI) L.length = true ∧ wdL (fun i => L.getD i dI) L.length = byF f 0 bn := by
 by_cases h1 : 4000 < bn
 ·exfalso; unfold rdA at h; rw [if_pos h1] at h; exact absurd h (by show ¬ (1 : Int) = 0; decide)
 by_cases h2 : (rdT f 14 0 bn 0).code = 0
 ·by_cases h3 : 300 < (rdT f 14 0 bn 0).its.length
  ·exfalso; unfold rdA at h; rw [if_neg h1, if_neg (fun h => h h2), if_pos h3] at h; exact absurd h (by show ¬ (7 : Int) = 0; decide)
  by_cases h4 : (rdT f 14 0 bn 0).nx < bn
  ·exfalso; unfold rdA at h; rw [if_neg h1, if_neg (fun h => h h2), if_neg h3, if_pos h4] at h; exact absurd h (by show ¬ (5 : Int) = 0; decide)
  have hA : rdA f bn = ((rdT f 14 0 bn 0).its, 0, 0) := by unfold rdA; rw [if_neg h1, if_neg (fun h => h h2), if_neg h3, if_neg h4]
  rw [hA] at hL ⊢
  have hL' : L.map ct = (rdT f 14 0 bn 0).its := hL
  have hn := (rdT_nx f 14 0 bn 0 h2).2
  have hnx : (rdT f 14 0 bn 0).nx = bn := by omega
  have hlen : L.length = (rdT f 14 0 bn 0).its.length := by rw [← hL', List.length_map]
  have hat : ∀ i, i < L.length → ct (L.getD i dI) ∈ (rdT f 14 0 bn 0).its := fun i hi => by
   rw [← hL', List.getD_eq_getElem?_getD, List.getElem?_eq_getElem hi]
   exact List.mem_map.2 ⟨_, List.getElem_mem hi, rfl⟩
  have hAt : AtI (fun i => L.getD i dI) 0 (rdT f 14 0 bn 0).its := fun j c hj => by
   rw [← hL', List.getElem?_map] at hj
   show ct (L.getD (0 + j) dI) = c
   rw [Nat.zero_add, List.getD_eq_getElem?_getD]
   cases hx : L[j]? with
   | none => rw [hx] at hj; simp at hj
   | some t => rw [hx] at hj; simp at hj ⊢; exact hj
  obtain ⟨g1, g2⟩ := rdT_good f 14 0 bn 0 hb h2
  obtain ⟨b1, b2⟩ := item_back f (fun i => L.getD i dI) L.length 13 0 bn 0 rfl hb h2 0 hAt (by show 0 + (rdT f 14 0 bn 0).its.length ≤ L.length; omega)
  rw [show (rdT f (13 + 1) 0 bn 0).its.length = L.length from hlen.symm, Nat.zero_add] at b1
  rw [show (rdT f (13 + 1) 0 bn 0).nx = bn from hnx, Nat.sub_zero] at b2
  have ht : treeV (fun i => L.getD i dI) L.length = true := by
   unfold treeV
   rw [decide_eq_true_eq]
   refine ⟨by omega, by omega, fun i hi => ?_, b1⟩
   have g := g2 _ (hat i hi)
   refine ⟨g.1, g.2.1, g.2.2.1, g.2.2.2.1, by have : (L.getD i dI).kid ≤ ((rdT f 14 0 bn 0).its.length : Int) := g.2.2.2.2.1; show (L.getD i dI).kid ≤ 300; omega, fun e => ?_, g.2.2.2.2.2.2⟩
   have := congrArg List.length (g.2.2.2.2.2.1 e)
   simpa [ct] using this
  have hB : wdB (fun i => L.getD i dI) L.length = true := by
   unfold wdB
   rw [ht, b2, byF_len]
   simp
   omega
  refine ⟨rfl, hB, ?_⟩
  unfold wdL
  rw [hB, if_pos rfl, b2]
 ·exfalso; unfold rdA at h; rw [if_neg h1, if_pos h2] at h; exact h2 h
end
section
def sgI (x : Nat → It) (q l : Nat) : List Ic := (List.range l).map (fun j => ct (x (q + j)))
theorem sgI_len (x : Nat → It) (q l : Nat) : (sgI x q l).length = l := by simp [sgI]
theorem sgI_app (x : Nat → It) (q a b : Nat) : sgI x q (a + b) = sgI x q a ++ sgI x (q + a) b := by
 unfold sgI
 rw [List.range_add, List.map_append, List.map_map]
 congr 1
 apply List.map_congr_left
 intro i _
 show ct (x (q + (a + i))) = ct (x (q + a + i))
 rw [Nat.add_assoc]
theorem sgI_one (x : Nat → It) (q l : Nat) : sgI x q (l + 1) = ct (x q) :: sgI x (q + 1) l := by
 rw [Nat.add_comm, sgI_app]
 rfl
theorem lgL_at {f : Nat → Int} {a L : Nat} (hb : lgL L = byF f a (lgN L)) {j : Nat} (hj : j < lgN L) : f (a + j) = lgF L j := by
 have := congrArg (fun l => l.getD j 0) hb
 simp [lgL, byF, hj] at this
 exact this.symm
theorem lnR_fwd {f : Nat → Int} {a E L : Nat} (hL : L < 65536) (hb : lgL L = byF f (a + 1) (lgN L)) (hE : a + 1 + lgN L ≤ E) : lnR f a E = (L, a + 1 + lgN L, 0) := by
 unfold lnR
 by_cases c1 : (L : Int) < 128
 ·obtain ⟨g1, g2⟩ := lg_low c1
  rw [g1] at hE
  have e1 := lgL_at hb (j := 0) (by omega)
  rw [g2 0 (by omega), Nat.add_zero] at e1
  rw [if_neg (by omega), if_pos (by omega), e1, g1]
  simp
 ·by_cases c2 : (L : Int) < 256
  ·obtain ⟨g1, g2, g3⟩ := lg_mid (by omega) c2
   rw [g1] at hE
   have e1 := lgL_at hb (j := 0) (by omega)
   have e2 := lgL_at hb (j := 1) (by omega)
   rw [g2, Nat.add_zero] at e1
   rw [g3, show a + 1 + 1 = a + 2 from rfl] at e2
   rw [if_neg (by omega), if_neg (by omega), if_neg (by omega), if_neg (by omega), if_pos e1, if_neg (by omega), e2, g1]
   simp
  ·obtain ⟨g1, g2, g3, g4⟩ := lg_high (n := (L : Int)) (by omega) (by omega)
   rw [g1] at hE
   have e1 := lgL_at hb (j := 0) (by omega)
   have e2 := lgL_at hb (j := 1) (by omega)
   have e3 := lgL_at hb (j := 2) (by omega)
   rw [g2, Nat.add_zero] at e1
   rw [g3, show a + 1 + 1 = a + 2 from rfl] at e2
   rw [g4, show a + 1 + 2 = a + 3 from rfl] at e3
   rw [if_neg (by omega), if_neg (by omega), if_neg (by omega), if_neg (by omega), if_neg (by omega), if_neg (by omega), e2, e3, g1]
   have : (256 * ((L : Int) / 256) + (L : Int) % 256).toNat = L := by omega
   rw [this]
theorem hdC_fwd {f : Nat → Int} {a E d L : Nat} (hL : L < 65536) (hb : lgL L = byF f (a + 1) (lgN L)) (hE : a + 1 + lgN L + L ≤ E) (hd : d ≤ 12) (ht : f a % 32 ≠ 31) : (hdC f a E d).1 = 0 ∧ hdS f a E = a + 1 + lgN L ∧ hdE f a E = a + 1 + lgN L + L := by
 have h := lnR_fwd hL hb (E := E) (by omega)
 have g : (hdC f a E d) = (0, 0) := by
  unfold hdC
  rw [if_neg (by omega), if_neg ht, if_neg (by omega), h]
  rw [if_neg (by show ¬ (0 : Int) = 2; decide), if_neg (by show ¬ (0 : Int) = 4; decide), if_neg (by show ¬ E < a + 1 + lgN L + L; omega)]
 refine ⟨by rw [g], ?_, ?_⟩
 ·unfold hdS; rw [h]
 ·unfold hdE; rw [h]
theorem byF_split {f : Nat → Int} {a : Nat} {A B : List Int} (h : A ++ B = byF f a (A ++ B).length) : A = byF f a A.length ∧ B = byF f (a + A.length) B.length := by
 rw [List.length_append, byF_app] at h
 exact List.append_inj h (by rw [byF_len])
section
variable {f : Nat → Int} {x : Nat → It} {n t : Nat} {rd : Nat → Rdr} {G : Nat → List Int} {E : Nat → Int}
theorem kids_fwd (hE : ∀ i, -1 ≤ E i) (hE1 : ∀ i, 0 ≤ E i → (i : Int) + 1 ≤ E i) (hG : ∀ i, 0 ≤ E i → 2 ≤ (G i).length)
  (hI : ∀ a q, 0 ≤ E q → G q = byF f a (G q).length → a + (G q).length ≤ t → (rd a).code = 0 ∧ (rd a).nx = a + (G q).length ∧ (rd a).its = sgI x q ((E q).toNat - q)) :
  ∀ (c m a q : Nat), 0 ≤ kidsF E c (q : Int) → wrB G E (q : Int) c = byF f a (wrB G E (q : Int) c).length → a + (wrB G E (q : Int) c).length = t → (wrB G E (q : Int) c).length ≤ m →
   (rdK rd t m a).1.code = 0 ∧ (rdK rd t m a).1.nx = t ∧ (rdK rd t m a).2 = c ∧ (rdK rd t m a).1.its = sgI x q ((kidsF E c (q : Int)).toNat - q) ∧ (q : Int) ≤ kidsF E c (q : Int)
 | 0, m, a, q, h0, hb, ht, hm => by
  have hw : wrB G E (q : Int) 0 = [] := rfl
  rw [hw] at ht
  have ht' : a = t := ht
  subst ht'
  have hz : (rdK rd a m a) = (⟨[], [], a, 0, 0⟩, 0) := by
   cases m with
   | zero => rfl
   | succ m => rw [rdK, if_pos (Nat.le_refl _)]
  rw [hz]
  refine ⟨rfl, rfl, rfl, ?_, ?_⟩
  ·show [] = sgI x q (((q : Int)).toNat - q)
   rw [Int.toNat_natCast, Nat.sub_self]
   rfl
  ·exact Int.le_refl _
 | c + 1, m, a, q, h0, hb, ht, hm => by
  rw [wrB_front G E hE q c] at hb ht hm
  have hk : kidsF E (c + 1) (q : Int) = kidsF E c (E q) := by rw [kidsF_front E hE]
  rw [hk] at h0 ⊢
  have hq : 0 ≤ E q := by
   by_cases h : 0 ≤ E q
   ·exact h
   ·have := hE q
    rw [show E q = -1 by omega, kidsF_minus] at h0
    omega
  obtain ⟨e, he⟩ := nat_of hq
  have hqe := hE1 q hq
  obtain ⟨b1, b2⟩ := byF_split hb
  rw [List.length_append] at ht hm
  have hg := hG q hq
  obtain ⟨i1, i2, i3⟩ := hI a q hq b1 (by omega)
  rw [he] at h0 b2 ht hm hqe i3 ⊢
  obtain ⟨m, rfl⟩ : ∃ m', m = m' + 1 := ⟨m - 1, by omega⟩
  obtain ⟨k1, k2, k3, k4, k5⟩ := kids_fwd hE hE1 hG hI c m (a + (G q).length) e h0 b2 (by omega) (by omega)
  rw [rdK, if_neg (by omega), if_neg (fun h => h i1), i2, if_neg (fun h => h k1)]
  refine ⟨rfl, k2, by rw [k3], ?_, by omega⟩
  show (rd a).its ++ (rdK rd t m (a + (G q).length)).1.its = _
  rw [i3, k4]
  have e1 : (kidsF E c (e : Int)).toNat - q = (e - q) + ((kidsF E c (e : Int)).toNat - e) := by omega
  rw [e1, sgI_app, Int.toNat_natCast, show q + (e - q) = e by omega]
end
theorem wrF_two (x : Nat → It) (n m i : Nat) (h : 0 ≤ endF (fun j => (x j).kid) n m i) : 2 ≤ (wrF x n m i).length := by
 cases m with
 | zero => simp [endF] at h
 | succ m =>
  rw [wrF, List.length_cons, List.length_append]
  have : 1 ≤ (lgL (boL (x i) ++ wrB (wrF x n m) (endF (fun j => (x j).kid) n m) ((i : Int) + 1) (x i).kid.toNat).length).length := by
   unfold lgL
   rw [List.length_map, List.length_range]
   unfold lgN
   split <;> omega
  omega
set_option maxRecDepth 100000 in
theorem item_fwd (f : Nat → Int) (x : Nat → It) (n : Nat) (hx : ∀ i, i < n → itGood (x i)) : ∀ m a E d q, d + (m + 1) = 14 → 0 ≤ endF (fun j => (x j).kid) n m q → E < 65536 → wrF x n m q = byF f a (wrF x n m q).length → a + (wrF x n m q).length ≤ E →
  (rdT f (m + 1) a E d).code = 0 ∧ (rdT f (m + 1) a E d).nx = a + (wrF x n m q).length ∧ (rdT f (m + 1) a E d).its = sgI x q ((endF (fun j => (x j).kid) n m q).toNat - q) := by
 intro m
 induction m with
 | zero => intro a E d q _ h; simp [endF] at h
 | succ m ih =>
  intro a E d q hd h0 hl hb hE
  have hqn : q < n := endF_lt h0
  have hg := hx q hqn
  have he : endF (fun j => (x j).kid) n (m + 1) q = kidsF (endF (fun j => (x j).kid) n m) (x q).kid.toNat ((q : Int) + 1) := by rw [endF, if_neg (by omega)]
  rw [he] at h0 ⊢
  rw [show ((q : Int) + 1) = ((q + 1 : Nat) : Int) by omega] at h0 ⊢
  rw [wrF, show ((q : Int) + 1) = ((q + 1 : Nat) : Int) by omega] at hb hE ⊢
  obtain ⟨W, hW⟩ : ∃ W, boL (x q) ++ wrB (wrF x n m) (endF (fun j => (x j).kid) n m) ((q + 1 : Nat) : Int) (x q).kid.toNat = W := ⟨_, rfl⟩
  rw [hW] at hb hE ⊢
  have hlg : (lgL W.length).length = lgN W.length := by unfold lgL; rw [List.length_map, List.length_range]
  rw [List.length_cons, List.length_append, hlg] at hE ⊢
  have hb1 : (x q).tag = f a ∧ lgL W.length ++ W = byF f (a + 1) (lgL W.length ++ W).length := by
   rw [List.length_cons, byF_one] at hb
   injection hb with h1 h2
   exact ⟨h1, h2⟩
  obtain ⟨b1, b2⟩ := byF_split hb1.2
  rw [hlg] at b1 b2
  have ht := hb1.1
  obtain ⟨H1, H2, H3⟩ := hdC_fwd (d := d) (E := E) (by omega) b1 (by omega) (by omega) (by rw [← ht]; exact hg.2.2.1)
  rw [rdT, if_neg (fun h => h H1)]
  by_cases hm : mdT (f a) = false
  ·rw [if_pos hm]
   have hk0 : (x q).kid = 0 := hg.2.2.2.2.2.2 (by rw [ht]; intro e; rw [(mdT_iff _).2 e] at hm; cases hm)
   rw [hk0] at hW ⊢
   have hW' : boL (x q) = W := by rw [← hW]; show _ = _ ++ []; rw [List.append_nil]
   refine ⟨rfl, by show hdE f a E = _; omega, ?_⟩
   show [itH f (hdOf f a E d)] = sgI x q ((((q + 1 : Nat) : Int)).toNat - q)
   rw [Int.toNat_natCast, show q + 1 - q = 0 + 1 by omega, sgI_one]
   have : itH f (hdOf f a E d) = ct (x q) := by
    unfold itH hdOf
    show (⟨f a, 0, if mdT (f a) then [] else (List.range (hdE f a E - hdS f a E)).map (fun i => f (hdS f a E + i))⟩ : Ic) = ct (x q)
    rw [hm, H2, H3, show a + 1 + lgN W.length + W.length - (a + 1 + lgN W.length) = W.length by omega]
    show (⟨f a, 0, byF f (a + 1 + lgN W.length) W.length⟩ : Ic) = ⟨(x q).tag, (x q).kid, boL (x q)⟩
    rw [← b2, ht, hk0, hW']
   rw [this]
   rfl
  ·rw [if_neg hm]
   have hm1 : mdT (f a) = true := by simpa using hm
   have hlen : (x q).len = 0 := hg.2.2.2.2.2.1 (by rw [ht]; exact (mdT_iff _).1 hm1)
   have hbo : boL (x q) = [] := by unfold boL; rw [hlen]; rfl
   rw [hbo, List.nil_append] at hW
   rw [H2, H3]
   have K := kids_fwd (f := f) (x := x) (t := a + 1 + lgN W.length + W.length) (rd := fun y => rdT f (m + 1) y (a + 1 + lgN W.length + W.length) (d + 1)) (G := wrF x n m) (E := endF (fun j => (x j).kid) n m) (fun i => (endF_range _ n m i).1) (fun i hi => endF_far _ n m i hi) (fun i hi => wrF_two x n m i hi)
    (fun a' q' h1 h2 h3 => ih a' (a + 1 + lgN W.length + W.length) (d + 1) q' (by omega) h1 (by omega) h2 h3) (x q).kid.toNat W.length (a + 1 + lgN W.length) (q + 1) h0 (by rw [hW]; exact b2) (by rw [hW]) (by rw [hW]; exact Nat.le_refl _)
   rw [show a + 1 + lgN W.length + W.length - (a + 1 + lgN W.length) = W.length by omega]
   obtain ⟨k1, k2, k3, k4, k5⟩ := K
   rw [if_neg (fun h => h k1)]
   refine ⟨rfl, by show a + 1 + lgN W.length + W.length = _; omega, ?_⟩
   show (⟨f a, _, []⟩ : Ic) :: _ = _
   rw [k4, k3]
   have e1 : (kidsF (endF (fun j => (x j).kid) n m) (x q).kid.toNat ((q + 1 : Nat) : Int)).toNat - q = ((kidsF (endF (fun j => (x j).kid) n m) (x q).kid.toNat ((q + 1 : Nat) : Int)).toNat - (q + 1)) + 1 := by omega
   rw [e1, sgI_one]
   congr 1
   show _ = (⟨(x q).tag, (x q).kid, boL (x q)⟩ : Ic)
   rw [hbo, ht]
   have := hg.2.2.2.1
   rw [Int.toNat_of_nonneg this]
theorem tree_fwd (x : Nat → It) (n : Nat) (f : Nat → Int) (hw : wdB x n = true) (hf : wdL x n = byF f 0 (wdL x n).length) : rdA f (wdL x n).length = (sgI x 0 n, 0, 0) := by
 have hw2 : wdL x n = wrF x n 13 0 := by unfold wdL; rw [hw, if_pos rfl]
 have hw3 := hw
 unfold wdB at hw3
 rw [Bool.and_eq_true, decide_eq_true_eq] at hw3
 obtain ⟨ht, hl⟩ := hw3
 have hg := tree_good ht
 unfold treeV at ht
 rw [decide_eq_true_eq] at ht
 have he := ht.2.2.2
 rw [hw2] at hf ⊢
 obtain ⟨h1, h2, h3⟩ := item_fwd f x n hg.2.2 13 0 (wrF x n 13 0).length 0 0 rfl (by rw [he]; omega) (by omega) hf (by omega)
 rw [he, Int.toNat_natCast, Nat.sub_zero] at h3
 have hn := hg.2.1
 unfold rdA
 rw [if_neg (by omega), if_neg (fun h => h h1), h3, sgI_len, if_neg (by omega), h2, if_neg (by omega)]
end
section
open Go.RowKit Go.Shelf
attribute [local go_sem] Oper.semAt_some
abbrev Ix (m : Nat) := { i : Nat // i < m }
def encI (x : Nat → It) {m : Nat} (p : Ix m) : Array Value := #[.int .i64 (p.1 : Int), .agg #[.int .i64 (x p.1).tag, .slice (x p.1).ad (x p.1).len (x p.1).cap, .int .i64 (x p.1).kid]]
def XC (CL b : Nat) (k : Nat) : Prop := k = CL ∨ k = b
set_option maxHeartbeats 6400000 in
set_option maxRecDepth 100000 in
theorem back1_inV (n : Nat) (hn1 : 1 ≤ n) (m CL b off cap : Nat) (x : Nat → It) (w0 : World) (hm : m ≤ 1048576) (hm0 : 0 < m) (hCL : w0.cell? ⟨CL, 0, none⟩ = some (.slice (some ⟨b, off, none⟩) m cap)) (hI : ISeg w0 (some ⟨b, off, none⟩) b off m x) :
  TellsV (α := Ix m) n Tryz.prog 144 #[.pointer (some ⟨CL, 0, none⟩)] (encI x) (fun pre y => pre.length + y.1 + 1 = m) (fun xs => xs.map (·.1) = (List.range m).reverse) (fun pre => pre.map (·.1) <+: (List.range m).reverse) m (XC CL b) w0 := by
 intro l J Jx W hW hJ hJx hY h0
 have lt2 : CL < w0.heap.size := World.block_lt_of_cell? _ _ hCL
 have lt3 : b < w0.heap.size := hI.lt hm0
 have hCW : W.cell? ⟨CL, 0, none⟩ = some (.slice (some ⟨b, off, none⟩) m cap) := (hW.cell (p := ⟨CL, 0, none⟩) lt2).trans hCL
 refine callsIn_of_wp Tryz.func144 rfl trivial ?_ rfl
 simp only [Tryz.ntmps144, List.size_toArray, List.length_cons, List.length_nil, Nat.reduceAdd, Nat.reduceSub, Array.replicate_succ, Array.replicate_zero, List.push_toArray, List.append_toArray, List.nil_append, List.cons_append]
 have hw1 : wrap64 ((m : Int) - 1) = (m : Int) - 1 := by unfold wrap64; omega
 gi_wp2
 have HK2 : Hid (∀ wr : World, (∀ k, XC CL b k → wr.heap[k]? = W.heap[k]?) → wr.cell? ⟨CL, 0, none⟩ = some (.slice (some ⟨b, off, none⟩) m cap) ∧ (∀ i, i < m → wr.cell? ⟨b, off + i * 3, none⟩ = some (.int .i64 (x i).tag) ∧ wr.cell? ⟨b, off + i * 3 + 1, none⟩ = some (.slice (x i).ad (x i).len (x i).cap) ∧ wr.cell? ⟨b, off + i * 3 + 2, none⟩ = some (.int .i64 (x i).kid))) := by
  intro wr hr
  have hbk : wr.heap[b]? = w0.heap[b]? := (hr b (.inr rfl)).trans (hW.block b lt3)
  refine ⟨?_, fun i hi => ⟨?_, ?_, ?_⟩⟩
  ·rw [World.cell?_of_block (a := ⟨CL, 0, none⟩) (hr CL (.inl rfl))]
   exact hCW
  ·exact (World.cell?_of_block (a := ⟨b, off + i * 3, none⟩) hbk).trans (hI.c0 i hi)
  ·exact (World.cell?_of_block (a := ⟨b, off + i * 3 + 1, none⟩) hbk).trans (hI.c1 i hi)
  ·exact (World.cell?_of_block (a := ⟨b, off + i * 3 + 2, none⟩) hbk).trans (hI.c2 i hi)
 have HXl : Hid (∀ k, XC CL b k → k < W.heap.size) := fun k hk => by have := hW.size; rcases hk with h | h <;> omega
 clear hw1
 gi_loopw [3] (fun p wr => ∃ (i : Nat) (pre : List (Ix m)) (O : Nat → Prop), i ≤ m ∧ p = .int .i64 ((i : Int) - 1) ∧ pre.map (·.1) ++ (List.range i).reverse = (List.range m).reverse ∧ pre.length + i = m ∧ J O pre wr ∧ W.heap.size ≤ wr.heap.size ∧ (∀ k, XC CL b k → wr.heap[k]? = W.heap[k]?) ∧ (∀ k, O k → W.heap.size ≤ k ∧ k < wr.heap.size)) (fun p _ => (intOf p + 1).toNat)
 case atStart => exact ⟨m, [], fun _ => False, Nat.le_refl _, rfl, rfl, by simp, h0, Nat.le_refl _, fun _ _ => rfl, fun _ h => h.elim⟩
 case round =>
  obtain ⟨i, pre, O, him, rfl, hT, hpi, hJp, hsz, hrd, hOk⟩ := hrel
  obtain ⟨cl, ci⟩ := HK2.out wr hrd
  have HOk := hide hOk
  have HT := hide hT
  have Hrd := hide hrd
  have Hpi := hide hpi
  clear hOk hT hrd hpi
  by_cases h0i : 0 < i
  ·obtain ⟨j, rfl⟩ : ∃ j, i = j + 1 := ⟨i - 1, by omega⟩
   have hj : j < m := by omega
   have hj' : (j : Int) < (m : Int) := by omega
   rw [show (((j + 1 : Nat) : Int) - 1) = (j : Int) by omega]
   obtain ⟨c0, c1, c2⟩ := ci j hj
   obtain ⟨fn, tmps, assign, body, hy, hR⟩ := hY O pre ⟨j, hj⟩ wr hJp (by have := Hpi.out; show pre.length + j + 1 = m; omega) HOk.out hsz (by have := Hpi.out; omega)
   simp only [encI] at hy
   have HR := hide hR
   have HF : Hid (pre.map (·.1) ++ (j :: (List.range j).reverse) = (List.range m).reverse) := by
    have := HT.out
    rw [List.range_succ, List.reverse_append] at this
    exact this
   clear hR ci
   gi_wp2
   refine HR.out.mono ?_
   rintro e W3 (⟨rfl, hJ3, hk3⟩ | ⟨rfl, hJx3⟩)
   ·have Hrd3 : Hid (∀ k, XC CL b k → W3.heap[k]? = W.heap[k]?) := fun k hk => (hk3.same k (.inr hk) (by have := HXl.out k hk; omega)).trans (Hrd.out k hk)
    have HOk3 : Hid (∀ k, O k → W.heap.size ≤ k ∧ k < W3.heap.size) := fun k hk => by have := HOk.out k hk; have := hk3.size; omega
    have HJ3 := hide hJ3
    have hsz3 : W.heap.size ≤ W3.heap.size := Nat.le_trans hsz hk3.size
    have hwj : wrap64 ((j : Int) - 1) = (j : Int) - 1 := by unfold wrap64; omega
    clear hJ3 hk3 cl c0 c1 c2 hy HR
    gi_wp2
    go_roundw
    case rel => exact ⟨j, pre ++ [⟨j, hj⟩], O, by omega, rfl, by rw [List.map_append, List.append_assoc]; exact HF.out, by have := Hpi.out; simp; omega, HJ3.out, hsz3, Hrd3.out, HOk3.out⟩
    case measure => simp [intOf]
   ·gi_wp2
    (try simp only [Exit.inBlock, Exit.then])
    refine bodyPost_ret (results_none rfl _ _ _) rfl ?_
    refine ⟨⟨_, rfl⟩, .inr ⟨pre ++ [⟨j, hj⟩], O, ?_, hJx3⟩⟩
    rw [← HF.out, List.map_append]
    exact ⟨_, by rw [List.append_assoc]; rfl⟩
  ·obtain rfl : i = 0 := by omega
   have hneg : ¬ (0 : Int) ≤ ((0 : Nat) : Int) - 1 := by omega
   gi_wp2
   go_end0
   refine ⟨⟨_, rfl⟩, .inl ⟨pre, ?_, O, hJp⟩⟩
   have h := HT.out
   simpa using h
end
end Go.Proofs.YtkogbinfhoiggaaGreatDoor
