/- A region that draws its order inside the body of a range over a function: what holds of it outside holds there too, where it defers nothing. Nothing of the program. Numbers: what an iterator tells of a part of a tree: its places one behind the other, its children where one is around. Nothing of the program. Walks: hasItem, Children of both. Walks: the model's l7Write: an item and what is below it as bytes. Walks: l1In and the two NatOk, each the plain test 'natOk', whatever slice of ints is handed in; nothing is written. Walks: the model's Children. Walks: the model's Part. -/
import Derived.OrdersIn
import Derived.Test.YtkogbinfhoiggaaGreatDoorCx11
import Derived.Test.YtkogbinfhoiggaaGreatDoorCx06
namespace Go.Proofs.YtkogbinfhoiggaaGreatDoor
set_option linter.unusedVariables false
set_option linter.unusedSimpArgs false
section
open Go Go.Sort Go.RowKit
section
variable {P : Program} {ops : Array Oper} {md : Region.Mode} {Q : Exit → Act → World → Prop} {n : Nat}
theorem rowsIn_all {row : String} {args : Array Value} {w : World} {R : Value → World → Prop} (h : Rows P row args w R) : RowsIn Fence.wide n P row args w R :=
 fun c cs _ => let ⟨v, w', r, s⟩ := h c cs; ⟨v, w', r, stepsIn_wide.2 s⟩
def noDefer (ops : Array Oper) : Bool := ops.all fun o => match o.op with | .defer _ => false | _ => true
theorem noDefer_spec (h : noDefer ops = true) {i : Nat} {o : Oper} (hi : ops[i]? = some o) : ∀ c, o.op ≠ .defer c := by
 intro c hc
 unfold noDefer at h
 rw [Array.all_eq_true_iff_forall_mem] at h
 have := h o (Array.mem_of_getElem? hi)
 rw [hc] at this
 cases this
theorem wpIn_of_wp {o : Oper} (hd : ∀ c, o.op ≠ .defer c) (l : Nat) {a : Act} {w : World} {K K' : Act → World → Prop} (hK : ∀ a w, K a w → K' a w) (h : o.wp P a w K Q) : o.wpIn (Fence.wide.inRound l) n P a w K' Q := by
 refine ⟨fun _ _ => trivial, ?_⟩
 rw [Oper.semAt_eq _ _ _ hd]
 unfold Oper.wp at h
 generalize (execOp a.eval o).run P w = r at *
 cases r with
 | ok x w' =>
  cases x <;> simp only [Oper.upon] at h <;> simp only [Oper.uponIn]
  case value => exact hK _ _ h
  case skip => exact hK _ _ h
  case defer => exact hK _ _ h
  case enter f args =>
   refine ⟨fun e => (by cases e), ?_⟩
   refine CallsIn.inRound l (callsIn_wide.2 (h.mono ?_))
   intro e w'' he
   cases e <;> first | exact hK _ _ he | exact he
  case row r args =>
   refine ⟨fun e => (by cases e), ?_⟩
   exact rowsIn_all (h.mono fun v w'' he => hK _ _ he)
 | halt x w' => cases x <;> simp only [Oper.upon] at h <;> simp only [Oper.uponIn] <;> exact h
theorem wpAnyIn_of_wpAny (hn : noDefer ops = true) (hL : ¬ LetsOut Q) (l : Nat) : ∀ (f : Nat) (listed : Array Bool) (a : Act) (w : World), wpAny P md ops Q f listed a w → wpAnyIn (Fence.wide.inRound l) n P md ops Q f listed a w
 | 0, _, _, _, h => h
 | f + 1, listed, a, w, h => by
  refine ⟨h.1, fun i hi => ?_⟩
  have k := h.2 i hi
  unfold wpOp at k
  unfold wpOpIn
  cases ho : ops[i]? with
  | none => rw [ho] at k; exact wpAnyIn_of_wpAny hn hL l f _ _ _ k
  | some o =>
   rw [ho] at k
   simp only at k ⊢
   by_cases hw : Region.wanted o (yielded ops a.tmps) = true
   ·rw [if_pos hw] at k ⊢
    rcases k with k | ⟨-, k⟩
    ·exact wpIn_of_wp (noDefer_spec hn ho) l (fun a w h => wpAnyIn_of_wpAny hn hL l f _ a w h) k
    ·exact absurd k hL
   ·rw [if_neg hw] at k ⊢
    exact ⟨fun _ _ => trivial, wpAnyIn_of_wpAny hn hL l f _ _ _ k⟩
theorem anyK_beginR {id : Nat} {a : Act} {w : World} {r : List Oper} (X : Nat → Prop) (m : Nat) (hm0 : r.length = m) (hm : P.follows .mixedOrders = true) (hn : noDefer r.toArray = true) (hL : ¬ LetsOut Q) (l : Nat) (h : anyK P .any r.toArray Q X w m (Array.replicate m false) a w) : (Go.Code.region id r.toArray true).wpIn (Fence.wide.inRound l) n P Q a w := by
 subst hm0
 refine wpIn_region_any hm ?_
 have := any_of_S _ _ _ _ _ (show Ext w { w with drawn := w.drawn + 1 } from ⟨rfl, rfl, rfl, Nat.le_refl _, fun _ _ => rfl⟩) (h (Grw.refl X w))
 exact wpAnyIn_of_wpAny hn hL l _ _ _ _ (by simpa using this)
end
end
section
theorem nat_of {z : Int} (h : 0 ≤ z) : ∃ e : Nat, z = e := ⟨z.toNat, by omega⟩
theorem kidsF_mono {f g : Nat → Int} (h : ∀ i, 0 ≤ f i → g i = f i) : ∀ (k : Nat) (s : Int), 0 ≤ kidsF f k s → kidsF g k s = kidsF f k s
 | 0, s, _ => rfl
 | k + 1, s, h0 => by
  unfold kidsF at h0 ⊢
  by_cases c : kidsF f k s < 0
  ·rw [if_pos c] at h0; omega
  ·rw [if_neg c] at h0 ⊢
   rw [kidsF_mono h k s (by omega), if_neg c]
   exact h _ h0
theorem endF_mono (kid : Nat → Int) (n : Nat) : ∀ (m i : Nat), 0 ≤ endF kid n m i → endF kid n (m + 1) i = endF kid n m i
 | 0, i, h => by simp [endF] at h
 | m + 1, i, h => by
  rw [endF] at h ⊢
  rw [endF]
  split
  ·rfl
  ·rename_i c
   rw [if_neg c] at h
   exact kidsF_mono (endF_mono kid n m) _ _ h
theorem kidsF_within {f : Nat → Int} (hf : ∀ i, 0 ≤ f i → (i : Int) + 1 ≤ f i) : ∀ (K : Nat) (s j : Nat), 0 ≤ kidsF f K s → s ≤ j → (j : Int) < kidsF f K s → ∃ s' : Nat, s' ≤ j ∧ (j : Int) < f s' ∧ f s' ≤ kidsF f K s
 | 0, s, j, h0, h1, h2 => by simp only [kidsF] at h2; omega
 | K + 1, s, j, h0, h1, h2 => by
  unfold kidsF at h0 h2 ⊢
  by_cases c : kidsF f K s < 0
  ·rw [if_pos c] at h0; omega
  ·rw [if_neg c] at h0 h2 ⊢
   obtain ⟨e, he⟩ := nat_of (show 0 ≤ kidsF f K s by omega)
   rw [he] at h0 h2 ⊢
   simp only [Int.toNat_natCast] at h0 h2 ⊢
   have hfar := hf e h0
   by_cases d : j < e
   ·obtain ⟨s', a1, a2, a3⟩ := kidsF_within hf K s j (by omega) h1 (by omega)
    exact ⟨s', a1, a2, by omega⟩
   ·exact ⟨e, by omega, h2, Int.le_refl _⟩
theorem endF_within (kid : Nat → Int) (n : Nat) : ∀ (m i j : Nat), 0 ≤ endF kid n m i → i ≤ j → (j : Int) < endF kid n m i → 0 ≤ endF kid n m j
 | 0, i, j, h, _, _ => by simp [endF] at h
 | m + 1, i, j, h0, h1, h2 => by
  by_cases e : j = i
  ·subst e; exact h0
  ·rw [endF] at h0 h2
   by_cases c : n ≤ i
   ·rw [if_pos c] at h0; omega
   ·rw [if_neg c] at h0 h2
    obtain ⟨s', a1, a2, a3⟩ := kidsF_within (fun i hi => endF_far kid n m i hi) _ (i + 1) j (by exact_mod_cast h0) (by omega) (by exact_mod_cast h2)
    have h3 := endF_within kid n m s' j (by omega) a1 a2
    rw [endF_mono kid n m j h3]
    exact h3
def kpF (f : Nat → Int) : Nat → Nat → List Nat
 | 0, _ => []
 | k + 1, s => s :: kpF f k (f s).toNat
def restP (kid : Nat → Int) (n e : Nat) (st : List Nat) : List (Nat × Nat) := match popF st with
 | none => []
 | some st' => trP kid (n - e) e st'
structure SubT (d s e : Nat) (T : List (Nat × Nat)) (kp : List Nat) : Prop where
 deep : ∀ p ∈ T, d < p.2
 places : T.map (·.1) = List.range' s (e - s)
 kids : (T.filter (fun p => p.2 == d + 1)).map (·.1) = kp
 le : s ≤ e
theorem range'_cat (s a b : Nat) (h1 : s ≤ a) (h2 : a ≤ b) : List.range' s (a - s) ++ List.range' a (b - a) = List.range' s (b - s) := by
 have := List.range'_append (s := s) (m := a - s) (n := b - a) (step := 1)
 rw [Nat.one_mul, show s + (a - s) = a by omega, show a - s + (b - a) = b - s by omega] at this
 exact this
theorem sub_kids (kid : Nat → Int) (n m : Nat)
  (C : ∀ (i e : Nat) (st : List Nat), i < n → endF kid n m i = (e : Int) → ∃ T, trP kid (n - i) i st = (i, st.length) :: T ++ restP kid n e st ∧ (∀ p ∈ T, st.length < p.2) ∧ T.map (·.1) = List.range' (i + 1) (e - (i + 1)))
  (st : List Nat) : ∀ (K s e : Nat), s ≤ n → kidsF (endF kid n m) K s = (e : Int) → ∃ T, restP kid n s (K :: st) = T ++ restP kid n e st ∧ SubT st.length s e T (kpF (endF kid n m) K s)
 | 0, s, e, hs, he => by
  simp only [kidsF] at he
  obtain rfl : s = e := by omega
  exact ⟨[], rfl, ⟨fun p hp => absurd hp (by simp), by simp, rfl, Nat.le_refl _⟩⟩
 | K + 1, s, e, hs, he => by
  rw [kidsF_front _ (fun i => (endF_range kid n m i).1)] at he
  have h0 : 0 ≤ endF kid n m s := by
   by_cases c : 0 ≤ endF kid n m s
   ·exact c
   ·have := (endF_range kid n m s).1
    rw [show endF kid n m s = -1 by omega, kidsF_minus] at he
    omega
  obtain ⟨e1, h1⟩ := nat_of h0
  have hfar := endF_far kid n m s h0
  have hr := (endF_range kid n m s).2
  have hsn : s < n := by omega
  obtain ⟨T1, a1, a2, a3⟩ := C s e1 (K :: st) hsn h1
  rw [h1] at he
  obtain ⟨T2, b1, b2⟩ := sub_kids kid n m C st K e1 e (by omega) he
  refine ⟨(s, st.length + 1) :: T1 ++ T2, ?_, ?_⟩
  ·show trP kid (n - s) s (K :: st) = _
   rw [a1, b1]
   simp
  ·have hle := b2.le
   refine ⟨fun p hp => ?_, ?_, ?_, by omega⟩
   ·rcases List.mem_append.1 hp with h | h
    ·rcases List.mem_cons.1 h with rfl | h
     ·exact Nat.lt_succ_self _
     ·have := a2 p h; simp at this; omega
    ·exact b2.deep p h
   ·rw [List.map_append, List.map_cons, a3, b2.places, ← range'_cat s e1 e (by omega) hle]
    congr 1
    rw [show e1 - s = (e1 - (s + 1)) + 1 by omega, List.range'_succ]
   ·rw [List.filter_append, List.map_append, b2.kids, List.filter_cons_of_pos (by simp), List.filter_eq_nil_iff.2 (fun p hp => by have := a2 p hp; simp at this ⊢; omega)]
    rw [kpF, h1]
    rfl
theorem sub_tree (kid : Nat → Int) (n : Nat) : ∀ (m i e : Nat) (st : List Nat), i < n → endF kid n m i = (e : Int) → ∃ T, trP kid (n - i) i st = (i, st.length) :: T ++ restP kid n e st ∧ (∀ p ∈ T, st.length < p.2) ∧ T.map (·.1) = List.range' (i + 1) (e - (i + 1))
 | 0, i, e, st, hi, he => by simp [endF] at he
 | m + 1, i, e, st, hi, he => by
  rw [endF, if_neg (by omega)] at he
  obtain ⟨T, h1, h2⟩ := sub_kids kid n m (fun i e st => sub_tree kid n m i e st) st (kid i).toNat (i + 1) e (by omega) (by exact_mod_cast he)
  refine ⟨T, ?_, h2.deep, h2.places⟩
  have hx : trP kid (n - i) i st = (i, st.length) :: restP kid n (i + 1) ((kid i).toNat :: st) := by
   rw [show n - i = (n - (i + 1)) + 1 by omega, trP]
   unfold restP
   cases popF ((kid i).toNat :: st) <;> rfl
  rw [hx, h1]
  simp
theorem kpF_mono {f g : Nat → Int} (h : ∀ i, 0 ≤ f i → g i = f i) (hf : ∀ i, -1 ≤ f i) : ∀ (K s : Nat), 0 ≤ kidsF f K s → kpF g K s = kpF f K s
 | 0, s, _ => rfl
 | K + 1, s, h0 => by
  rw [kidsF_front _ hf] at h0
  have h1 : 0 ≤ f s := by
   by_cases c : 0 ≤ f s
   ·exact c
   ·have := hf s
    rw [show f s = -1 by omega, kidsF_minus] at h0
    omega
  obtain ⟨e, he⟩ := nat_of h1
  rw [kpF, kpF, h s h1, he, Int.toNat_natCast]
  rw [he] at h0
  rw [kpF_mono h hf K e h0]
theorem tree_part {x : Nat → It} {n i : Nat} (ht : treeV x n = true) (hi : i < n) : ∃ (e : Nat) (T : List (Nat × Nat)), endF (fun j => (x j).kid) n 13 i = (e : Int) ∧ i < e ∧ e ≤ n ∧ trP (fun j => (x j).kid) (n - i) i [] = (i, 0) :: T ∧ SubT 0 (i + 1) e T (kpF (endF (fun j => (x j).kid) n 13) (x i).kid.toNat (i + 1)) := by
 unfold treeV at ht
 rw [decide_eq_true_eq] at ht
 obtain ⟨h1, h2, h3, h4⟩ := ht
 have h5 := endF_within (fun j => (x j).kid) n 13 0 i (by omega) (Nat.zero_le _) (by omega)
 obtain ⟨e, he⟩ := nat_of h5
 have hfar := endF_far _ n 13 i h5
 have hr := (endF_range (fun j => (x j).kid) n 13 i).2
 have he2 := he
 rw [endF, if_neg (by omega)] at he2
 obtain ⟨T, a1, a2⟩ := sub_kids (fun j => (x j).kid) n 12 (fun i e st => sub_tree _ n 12 i e st) [] (x i).kid.toNat (i + 1) e (by omega) (by exact_mod_cast he2)
 refine ⟨e, T, he, by omega, by omega, ?_, ?_⟩
 ·have hx : trP (fun j => (x j).kid) (n - i) i [] = (i, 0) :: restP (fun j => (x j).kid) n (i + 1) ((x i).kid.toNat :: []) := by
   rw [show n - i = (n - (i + 1)) + 1 by omega, trP]
   unfold restP
   cases popF ((x i).kid.toNat :: []) <;> rfl
  rw [hx, a1]
  simp [restP, popF]
 ·rw [kpF_mono (endF_mono _ n 12) (fun i => (endF_range _ n 12 i).1) _ _ (by rw [show (((i + 1 : Nat)) : Int) = (i : Int) + 1 by omega, he2]; omega)]
  exact a2
end
section
open Go.RowKit Go.Shelf
attribute [local go_sem] Oper.semAt_some
theorem tree_good {x : Nat → It} {n : Nat} (h : treeV x n = true) : 1 ≤ n ∧ n ≤ 300 ∧ ∀ i, i < n → itGood (x i) := by
 unfold treeV at h
 rw [decide_eq_true_eq] at h
 exact ⟨h.1, h.2.1, h.2.2.1⟩
theorem owns_keep' {w w' : World} {B n : Nat} {v : Value} {xs : List Value} (ho : w.ownsRow B 3 1 v n xs) (h : Ext w w') : w'.ownsRow B 3 1 v n xs := by
 refine ⟨ho.1, ?_⟩
 rcases ho.2 with h0 | ⟨g, cap, cur, rfl, hb, hg, rest⟩
 ·exact .inl h0
 ·exact .inr ⟨g, cap, cur, rfl, hb, (Below.block h g (Array.getElem?_eq_some_iff.1 hg).1).trans hg, rest⟩
end
section
open Go.RowKit
def bl (L : List Int) : List Value := L.map (.int .u8 ·)
theorem bl_byts (L : List Int) : bl L = byts (fun i => L.getD i 0) L.length := by
 unfold bl byts
 apply List.ext_getElem
 ·simp
 ·intro i h1 h2
  simp at h1
  simp [h1]
theorem byts_bl (f : Nat → Int) (n : Nat) : byts f n = bl ((List.range n).map f) := by
 unfold bl byts
 simp
theorem bl_app (A B : List Int) : bl A ++ bl B = bl (A ++ B) := by unfold bl; simp
def boL (x : It) : List Int := (List.range x.len).map x.f
def lgL (n : Nat) : List Int := (List.range (lgN n)).map (lgF n)
def wrB (g : Nat → List Int) (f : Nat → Int) (s : Int) : Nat → List Int
 | 0 => []
 | k + 1 => wrB g f s k ++ g (kidsF f k s).toNat
def wrF (x : Nat → It) (n : Nat) : Nat → Nat → List Int
 | 0, _ => []
 | m + 1, i => (x i).tag :: (lgL (boL (x i) ++ wrB (wrF x n m) (endF (fun j => (x j).kid) n m) ((i : Int) + 1) (x i).kid.toNat).length ++ (boL (x i) ++ wrB (wrF x n m) (endF (fun j => (x j).kid) n m) ((i : Int) + 1) (x i).kid.toNat))
theorem wrB_le (g : Nat → List Int) (f : Nat → Int) (s : Int) {k K : Nat} (h : k ≤ K) : (wrB g f s k).length ≤ (wrB g f s K).length := by
 induction K with
 | zero =>
  obtain rfl : k = 0 := by omega
  exact Nat.le_refl _
 | succ K ih =>
  by_cases e : k = K + 1
  ·subst e; exact Nat.le_refl _
  ·have := ih (by omega)
   rw [wrB, List.length_append]
   omega
theorem kids_ok {f : Nat → Int} {s : Int} {K : Nat} (h : 0 ≤ kidsF f K s) {k : Nat} (hk : k ≤ K) : 0 ≤ kidsF f k s := by
 by_cases e : k = K
 ·subst e; exact h
 ·by_cases c : kidsF f k s < 0
  ·have := kidsF_neg c K (by omega); omega
  ·omega
theorem l1BytesD_any (a : Option Addr) (b off n cap : Nat) (f : Nat → Int) (w : World) (hB : BSeg w a b off n f) (hn : n ≤ 1099511627776) : Calls Tryz.prog 16 #[.slice a n cap] w fun e w' => GivesR w n f e w' := by
 have hown := World.ownsRow_made (base := w.heap.size) (e := 5) (size := 1) w #[] 0 (Nat.le_refl _) (by simp) rfl
 have Hb := hide (hB.of_all (Ext.alloc w (.cells #[] 5)))
 have Ho := hide hown
 clear hB hown
 go_enter Tryz.func16, Tryz.ntmps16
 go_wp2_with (at_builtin; refine wpList_append_bs rfl _ _ rfl w.heap.size _ 0 [] rfl Ho.out _ b off n cap f rfl Hb.out (by omega) (by simp) ?_)
 intro v' w1 h1 h2
 have HO := hide h1
 clear h1 Ho Hb
 have HE : Hid (Ext w w1) := hide (((Below.refl _ _).alloc (Nat.le_refl _) _).trans h2)
 clear h2
 go_wp2
 go_ret
 have h3 := HO.out
 first | exact ⟨_, rfl, h3, HE.out⟩ | (rw [Nat.zero_add] at h3; exact ⟨_, rfl, h3, HE.out⟩)
theorem endF_lt {kid : Nat → Int} {n m z : Nat} (h : 0 ≤ endF kid n m z) : z < n := by
 cases m with
 | zero => have : endF kid n 0 z = -1 := rfl; omega
 | succ m =>
  rw [endF] at h
  by_cases c : n ≤ z
  ·rw [if_pos c] at h; omega
  ·omega
theorem Grw.of_belowW {X : Nat → Prop} {B : Nat} {a b : World} (h : Below B a b) (hX : ∀ k, B ≤ k → X k) : Grw X a b :=
 ⟨h.os, h.tape, h.output, h.size, fun k hk hn => h.block k (by
  by_cases hh : k < B
  ·exact hh
  ·exact absurd (hX k (by omega)) hn)⟩
def GivesWr (W : World) (L : List Int) (e : Int) (en : Ending) (w' : World) : Prop := ∃ v, en = .returned (.tuple #[v, .int .i64 e]) ∧ w'.ownsRow W.heap.size 5 1 v L.length (bl L) ∧ Ext W w'
set_option maxHeartbeats 3200000 in
set_option maxRecDepth 100000 in
theorem l7Write_any (a : Option Addr) (b off n cap : Nat) (x : Nat → It) (w : World) (hs : ISeg w a b off n x) (hn : n ≤ 1048576) (hkid : ∀ i, i < n → 0 ≤ (x i).kid ∧ (x i).kid ≤ 1048576) (htag : ∀ i, i < n → 0 ≤ (x i).tag ∧ (x i).tag ≤ 255) :
  ∀ (m i : Nat) (W : World), i < n → 0 ≤ endF (fun j => (x j).kid) n m i → (wrF x n m i).length ≤ 60000 → Ext w W →
  Calls Tryz.prog 71 #[.slice a n cap, .int .i64 i] W fun e w' => GivesWr W (wrF x n m i) (endF (fun j => (x j).kid) n m i) e w'
 | 0, i, W, hi, h0, hl, hE => by
  have : endF (fun j => (x j).kid) n 0 i = -1 := rfl
  omega
 | m + 1, i, W, hi, h0, hl, hE => by
  have e1 : endF (fun j => (x j).kid) n (m + 1) i = kidsF (endF (fun j => (x j).kid) n m) (x i).kid.toNat (i + 1) := by rw [endF]; rw [if_neg (by omega)]
  have e2 : wrF x n (m + 1) i = (x i).tag :: (lgL (boL (x i) ++ wrB (wrF x n m) (endF (fun j => (x j).kid) n m) ((i : Int) + 1) (x i).kid.toNat).length ++ (boL (x i) ++ wrB (wrF x n m) (endF (fun j => (x j).kid) n m) ((i : Int) + 1) (x i).kid.toNat)) := rfl
  rw [e1] at h0
  rw [e2] at hl
  rw [e1, e2]
  have IH := hide (fun (i : Nat) (W : World) (hi : i < n) (h0 : 0 ≤ endF (fun j => (x j).kid) n m i) (hl : (wrF x n m i).length ≤ 60000) (hE : Ext w W) => l7Write_any a b off n cap x w hs hn hkid htag m i W hi h0 hl hE)
  have hr := endF_range (fun j => (x j).kid) n m
  have Hn : Hid (∀ z, 0 ≤ endF (fun j => (x j).kid) n m z → z < n) := fun z h => endF_lt h
  generalize endF (fun j => (x j).kid) n m = f at *
  generalize wrF x n m = g at *
  clear e1 e2
  obtain rfl := hs.at' (by omega)
  obtain ⟨hk0, hk1⟩ := hkid i hi
  obtain ⟨ht0, ht1⟩ := htag i hi
  obtain ⟨K, hK⟩ : ∃ K : Nat, (x i).kid = K := ⟨(x i).kid.toNat, by omega⟩
  rw [show (x i).kid.toNat = K by omega] at h0 hl ⊢
  have HS := hide hs
  have HE := hide hE
  have HR := hide hr
  have H0 := hide h0
  have hl2 : (boL (x i) ++ wrB g f ((i : Int) + 1) K).length ≤ 60000 := by
   rw [List.length_cons, List.length_append] at hl
   omega
  have HL := hide hl2
  have hsW := hs.of_all hE
  have c0 := hsW.c0 i hi
  have c1 := hsW.c1 i hi
  have c2 := hsW.c2 i hi
  rw [hK] at c2
  have HBd := hide (hsW.body i hi)
  clear hs hE hr hkid htag h0 hl hl2 hsW
  have hlen : (x i).len ≤ 60000 := by
   have := HL.out
   rw [List.length_append] at this
   simp only [boL, List.length_map, List.length_range] at this
   omega
  have HY := hide (l1BytesD_any (x i).ad (x i).blk (x i).off (x i).len (x i).cap (x i).f W HBd.out (by omega))
  unfold GivesR at HY
  rw [byts_bl] at HY
  have hin : (i : Int) < (n : Int) := by omega
  have hbl : (boL (x i)).length = (x i).len := by simp [boL]
  rw [show (List.range (x i).len).map (x i).f = boL (x i) from rfl, ← hbl] at HY
  have Hbl := hide hbl
  generalize hBO : boL (x i) = BO at *
  generalize hTg : (x i).tag = tag at *
  have HTg := hide hTg
  clear hTg
  clear HBd hlen hbl
  go_enter Tryz.func71, Tryz.ntmps71
  go_wp2_with fail
  rw [← Hbl.out]
  refine HY.out.mono ?_
  rintro e w1 ⟨v, rfl, hO, hE1⟩
  have HO := hide hO
  have HE1 := hide hE1
  clear hO hE1 HY
  go_wp2_with fail
  clear c0 c1 c2
  go_loopw [6, 7, 8] (fun v nx kv wr => ∃ k : Nat, k ≤ K ∧ kv = .int .i64 (k : Int) ∧ nx = .int .i64 (kidsF f k (i + 1)) ∧ wr.ownsRow W.heap.size 5 1 v (BO ++ wrB g f ((i : Int) + 1) k).length (bl (BO ++ wrB g f ((i : Int) + 1) k)) ∧ Ext W wr) (fun _ _ kv _ => K - (intOf kv).toNat)
  case atStart => exact ⟨0, Nat.zero_le _, rfl, rfl, by rw [wrB, List.append_nil]; exact HO.out, HE1.out⟩
  case round =>
   clear HO HE1
   obtain ⟨k, hk, rfl, rfl, hO, hE1⟩ := hrel
   have hz0 := kids_ok H0.out hk
   obtain ⟨z, hz⟩ : ∃ z : Nat, kidsF f k (i + 1) = z := ⟨(kidsF f k (i + 1)).toNat, by omega⟩
   have c0 := (HS.out.of_all (HE.out.trans hE1)).c0 i hi
   rw [HTg.out] at c0
   have c2 := (HS.out.of_all (HE.out.trans hE1)).c2 i hi
   rw [hK] at c2
   have HE1 := hide hE1
   have HO := hide hO
   by_cases hlt : k < K
   ·have hlt' : (k : Int) < (K : Int) := by omega
    have hnx : kidsF f (k + 1) (i + 1) = f z := by
     show (if kidsF f k (i + 1) < 0 then -1 else f (kidsF f k (i + 1)).toNat) = f z
     rw [hz, if_neg (by omega), Int.toNat_natCast]
    have hfz : 0 ≤ f z := by rw [← hnx]; exact kids_ok H0.out hlt
    have hst : BO ++ wrB g f ((i : Int) + 1) (k + 1) = (BO ++ wrB g f ((i : Int) + 1) k) ++ g z := by
     rw [wrB, hz, Int.toNat_natCast, List.append_assoc]
    have hle : (BO ++ wrB g f ((i : Int) + 1) (k + 1)).length ≤ 60000 := by
     have h1 := wrB_le g f ((i : Int) + 1) (show k + 1 ≤ K from hlt)
     have h2 := HL.out
     rw [List.length_append] at h2 ⊢
     omega
    rw [hst, List.length_append] at hle
    have HC := hide (IH.out z wr (Hn.out z hfz) hfz (by omega) (HE.out.trans HE1.out))
    rw [hz]
    have Hnx := hide hnx
    have Hst := hide hst
    generalize BO ++ wrB g f ((i : Int) + 1) k = A at *
    generalize g z = Gz at *
    generalize f z = fz at *
    clear hO hE1 hz0 hz hnx hst hfz c0
    go_wp2_with fail
    refine HC.out.mono ?_
    rintro e w3 ⟨v3, rfl, hO3, hE3⟩
    obtain ⟨G2, hG2⟩ : ∃ G2 : Nat → Int, bl Gz = byts G2 Gz.length := ⟨_, bl_byts Gz⟩
    rw [hG2] at hO3
    have HG2 := hide hG2
    obtain ⟨ya, yg, yc, rfl, hyg, hyn, hyc, hyB⟩ := owns_seg hO3
    have HX := hide hyB.toBSeg
    have HO2 := hide (owns_ext' HO.out hE3)
    have HE3 := hide (HE1.out.trans hE3)
    have hsz : W.heap.size ≤ w3.heap.size := Below.size HE3.out
    clear hO3 hE3 hyB HC hG2
    go_wp2_with (at_builtin; refine wpList_append_bs rfl _ _ rfl W.heap.size _ A.length (bl A) rfl HO2.out _ yg 0 Gz.length yc G2 rfl HX.out (by omega) hsz ?_)
    intro v5 w5 hO5 hb5
    rw [← HG2.out, bl_app, ← List.length_append] at hO5
    have HO5 := hide hO5
    have HE5 := hide (Below.trans HE3.out hb5)
    obtain ⟨za, zg, zc, rfl⟩ : ∃ za zg zc, v5 = .slice za (A ++ Gz).length zc := by
     rw [bl_byts] at hO5
     obtain ⟨a1, g1, c1, rfl, -⟩ := owns_seg hO5
     exact ⟨a1, g1, c1, rfl⟩
    clear hO5 hb5 HX HO2
    go_wp2
    go_roundw
    case rel => exact ⟨k + 1, hlt, by go_num, by rw [Hnx.out], by rw [Hst.out]; exact HO5.out, HE5.out⟩
    case measure => simp [intOf]; omega
   ·obtain rfl : k = K := by omega
    have hlt' : ¬ (k : Int) < (k : Int) := by omega
    have hle := HL.out
    rw [hz]
    have Hz := hide hz
    generalize hAA : BO ++ wrB g f ((i : Int) + 1) k = A at *
    have HAA := hide hAA
    clear hAA
    have HLn := hide (fun W => l7Length_any (A.length : Int) W (by omega) (by omega))
    obtain ⟨A2, hA2⟩ : ∃ A2 : Nat → Int, bl A = byts A2 A.length := ⟨_, bl_byts A⟩
    have hO' := hO
    rw [hA2] at hO'
    obtain ⟨va, vg, vc, rfl, hvg, hvn, hvc, hvB⟩ := owns_seg hO'
    have HVB := hide hvB.toBSeg
    have HA2 := hide hA2
    clear hvB hO' hA2
    clear hO hE1 hz0 hz
    go_wp2_with fail
    have hbW : b < W.heap.size := Nat.lt_of_lt_of_le (HS.out.lt (by omega)) (Below.size HE.out)
    have c0' := fun p : ReC (fun q => wr.heap.size ≤ q) wr => cell_reC c0 (by show ¬ wr.heap.size ≤ b; have := Below.size HE1.out; omega) p
    have ht8 : IntKind.u8.wrap tag = tag := by rw [IntKind.wrap_u8]; omega
    have x1 : ∀ q, wr.heap.size ≤ q → wr.heap.size ≤ q := fun _ h => h
    refine anyK_begin (fun q => wr.heap.size ≤ q) 12 rfl (by kernel_rfl) ?_
    refine anyK_take 0 6 6 rfl (by decide) (by kernel_rfl) (fun _ _ d _ _ h => by cases d <;> exact h) ?_
    repeat (refine headC_step (fun K hK => ?_); go_simp; refine hK _ ?_; clear hK K)
    refine headC_nil ?_
    refine anyK_take 7 2 4 rfl (by decide) (by kernel_rfl) (fun _ _ d _ _ h => by cases d <;> exact h) ?_
    repeat (refine headC_step (fun K hK => ?_); go_simp; refine hK _ ?_; clear hK K)
    refine headC_nil ?_
    clear c0' c0 c2
    refine anyK_two 6 9 (by kernel_rfl) ?_ ?_
    ·skip
     refine stepK_run rfl ?_
     intro w3 h3 K2 hK2
     go_simp
     refine hK2 _ _ (.of_ext (h3.trans (Ext.alloc _ _))) ?_
     clear hK2 K2
     have HTw3 := hide (owns_mono (owns_one8 w3 tag) (show wr.heap.size ≤ w3.heap.size from Below.size h3))
     have Ew3 := hide (h3.trans (Ext.alloc w3 (.cells #[.int .u8 tag] 5)))
     generalize w3.alloc (.cells #[.int .u8 tag] 5) = w4 at *
     generalize w3.heap.size = SL at *
     clear h3
     refine anyK_one 9 (by kernel_rfl) ?_
     refine stepK_run rfl ?_
     intro w5 h5 K2 hK2
     go_simp
     refine (HLn.out w5).mono ?_
     rintro e wE ⟨vl, rfl, hOl, hEl⟩
     obtain ⟨ya, yg, yc, rfl, hyg, hyn, hyc, hyB⟩ := owns_seg hOl
     have HXwE := hide hyB.toBSeg
     have HOE := hide (owns_ext' HTw3.out (h5.trans hEl))
     have EE := hide ((Ew3.out.trans h5).trans hEl)
     have HXE := HXwE
     refine hK2 _ _ (.of_ext EE.out) ?_
     clear hK2 K2 HTw3 Ew3 h5 hEl hOl hyB hyg
     refine anyK_one 10 (by kernel_rfl) ?_
     refine stepK_run rfl ?_
     intro w6 h6 K2 hK2
     have HO6 := hide (owns_ext' HOE.out h6)
     have HX6 := hide (HXE.out.of_all h6)
     have E6 := hide (EE.out.trans h6)
     have hB6 : wr.heap.size ≤ w6.heap.size := Below.size E6.out
     rw [if_pos (show _ = true by kernel_rfl)]
     refine wp_append_bs _ _ rfl wr.heap.size _ 1 _ rfl HO6.out _ yg 0 (lgN (A.length : Int)) yc (lgF (A.length : Int)) rfl HX6.out (by have := (lgN_le (n := (A.length : Int)) (by omega) (by omega)).2; omega) hB6 ?_
     intro v7 w7 hO7 hb7
     refine hK2 _ _ ((Grw.of_ext E6.out).trans (Grw.of_belowW hb7 x1)) ?_
     clear hK2 K2
     have HO7 : Hid (w7.ownsRow wr.heap.size 5 1 v7 (tag :: lgL A.length).length (bl (tag :: lgL A.length))) := by
      have e : byts (fun _ => tag) 1 ++ byts (lgF (A.length : Int)) (lgN (A.length : Int)) = bl (tag :: lgL A.length) := by
       rw [byts_bl (lgF (A.length : Int))]
       rfl
      have e2 : (tag :: lgL A.length).length = 1 + lgN (A.length : Int) := by simp [lgL]; omega
      rw [e2, ← e]
      exact hO7
     have HE7 : Hid (Ext W w7) := hide (Below.trans (HE1.out.trans E6.out) (hb7.mono (Below.size HE1.out)))
     have HV7 := hide ((HVB.out.of_all E6.out).below hb7 (fun h => HVB.out.lt h))
     have Hb7 := hide hb7
     clear hO7 hb7 HO6 HX6 HOE HXE EE h6 hB6
     refine anyK_take 11 1 0 rfl (by decide) (by kernel_rfl) (fun _ _ d _ _ h => by cases d <;> exact h) ?_
     repeat (refine headC_step (fun K hK => ?_); go_simp; refine hK _ ?_; clear hK K)
     refine headC_nil ?_
     refine anyK_done (by kernel_rfl) ?_ 0
     intro w8 h8
     have HO8 := hide (owns_ext' HO7.out h8)
     have HV8 := hide (HV7.out.of_all h8)
     have HE8 := hide (HE7.out.trans h8)
     obtain ⟨T2, hT2⟩ : ∃ T2 : Nat → Int, bl (tag :: lgL A.length) = byts T2 (tag :: lgL A.length).length := ⟨_, bl_byts _⟩
     have hO8 := HO8.out
     rw [hT2] at hO8
     obtain ⟨oa, og, oc, rfl, -, -, -, -⟩ := owns_seg hO8
     have hB8 : wr.heap.size ≤ w8.heap.size := by have h1 := Below.size Hb7.out; have h2 := Below.size E6.out; have h3 := Below.size h8; omega
     have hcn : (tag :: lgL A.length).length ≤ 20 := by have := (lgN_le (n := (A.length : Int)) (by omega) (by omega)).2; simp [lgL]; omega
     clear hT2 hO8 HO7 HV7 HE7 Hb7 h8
     generalize hTL : tag :: lgL A.length = TL at *
     have HTL := hide hTL
     clear hTL
     go_wp2_with (at_builtin; refine wpList_append_bs rfl _ _ rfl wr.heap.size _ TL.length (bl TL) rfl HO8.out _ vg 0 A.length vc A2 rfl HV8.out (by omega) hB8 ?_)
     intro v9 w9 hO9 hb9
     rw [← HA2.out, bl_app, ← List.length_append] at hO9
     have HF : Hid (GivesWr W (TL ++ A) (z : Int) (.returned (.tuple #[v9, .int .i64 (z : Int)])) w9) := ⟨v9, rfl, owns_mono hO9 (Below.size HE1.out), Below.trans HE8.out (hb9.mono (Below.size HE1.out))⟩
     clear hO9 hb9 HO8 HV8 HE8
     go_wp2
     go_ret2
     rw [HAA.out, Hz.out, show tag :: (lgL A.length ++ A) = TL ++ A by rw [← HTL.out]; rfl]
     exact HF.out
    ·skip
     refine stepK_run rfl ?_
     intro w3 h3 K2 hK2
     go_simp
     refine (HLn.out w3).mono ?_
     rintro e w4 ⟨vl, rfl, hOl, hEl⟩
     obtain ⟨ya, yg, yc, rfl, hyg, hyn, hyc, hyB⟩ := owns_seg hOl
     have HXw4 := hide hyB.toBSeg
     refine hK2 _ _ (.of_ext (h3.trans hEl)) ?_
     clear hK2 K2
     have E4 := hide (h3.trans hEl)
     clear h3 hEl hOl hyB hyg
     refine anyK_one 6 (by kernel_rfl) ?_
     refine stepK_run rfl ?_
     intro w5 h5 K2 hK2
     go_simp
     refine hK2 _ _ (.of_ext ((E4.out.trans h5).trans (Ext.alloc _ _))) ?_
     clear hK2 K2
     have HTw5 := hide (owns_mono (owns_one8 w5 tag) (show wr.heap.size ≤ w5.heap.size from Below.size (E4.out.trans h5)))
     have Ew5 := hide ((E4.out.trans h5).trans (Ext.alloc w5 (.cells #[.int .u8 tag] 5)))
     have HXE := hide ((HXw4.out.of_all h5).of_all (Ext.alloc w5 (.cells #[.int .u8 tag] 5)))
     have HOE := HTw5
     have EE := Ew5
     generalize w5.alloc (.cells #[.int .u8 tag] 5) = wE at *
     generalize w5.heap.size = SL at *
     clear h5 HTw5 Ew5 HXw4 E4
     refine anyK_one 10 (by kernel_rfl) ?_
     refine stepK_run rfl ?_
     intro w6 h6 K2 hK2
     have HO6 := hide (owns_ext' HOE.out h6)
     have HX6 := hide (HXE.out.of_all h6)
     have E6 := hide (EE.out.trans h6)
     have hB6 : wr.heap.size ≤ w6.heap.size := Below.size E6.out
     rw [if_pos (show _ = true by kernel_rfl)]
     refine wp_append_bs _ _ rfl wr.heap.size _ 1 _ rfl HO6.out _ yg 0 (lgN (A.length : Int)) yc (lgF (A.length : Int)) rfl HX6.out (by have := (lgN_le (n := (A.length : Int)) (by omega) (by omega)).2; omega) hB6 ?_
     intro v7 w7 hO7 hb7
     refine hK2 _ _ ((Grw.of_ext E6.out).trans (Grw.of_belowW hb7 x1)) ?_
     clear hK2 K2
     have HO7 : Hid (w7.ownsRow wr.heap.size 5 1 v7 (tag :: lgL A.length).length (bl (tag :: lgL A.length))) := by
      have e : byts (fun _ => tag) 1 ++ byts (lgF (A.length : Int)) (lgN (A.length : Int)) = bl (tag :: lgL A.length) := by
       rw [byts_bl (lgF (A.length : Int))]
       rfl
      have e2 : (tag :: lgL A.length).length = 1 + lgN (A.length : Int) := by simp [lgL]; omega
      rw [e2, ← e]
      exact hO7
     have HE7 : Hid (Ext W w7) := hide (Below.trans (HE1.out.trans E6.out) (hb7.mono (Below.size HE1.out)))
     have HV7 := hide ((HVB.out.of_all E6.out).below hb7 (fun h => HVB.out.lt h))
     have Hb7 := hide hb7
     clear hO7 hb7 HO6 HX6 HOE HXE EE h6 hB6
     refine anyK_take 11 1 0 rfl (by decide) (by kernel_rfl) (fun _ _ d _ _ h => by cases d <;> exact h) ?_
     repeat (refine headC_step (fun K hK => ?_); go_simp; refine hK _ ?_; clear hK K)
     refine headC_nil ?_
     refine anyK_done (by kernel_rfl) ?_ 0
     intro w8 h8
     have HO8 := hide (owns_ext' HO7.out h8)
     have HV8 := hide (HV7.out.of_all h8)
     have HE8 := hide (HE7.out.trans h8)
     obtain ⟨T2, hT2⟩ : ∃ T2 : Nat → Int, bl (tag :: lgL A.length) = byts T2 (tag :: lgL A.length).length := ⟨_, bl_byts _⟩
     have hO8 := HO8.out
     rw [hT2] at hO8
     obtain ⟨oa, og, oc, rfl, -, -, -, -⟩ := owns_seg hO8
     have hB8 : wr.heap.size ≤ w8.heap.size := by have h1 := Below.size Hb7.out; have h2 := Below.size E6.out; have h3 := Below.size h8; omega
     have hcn : (tag :: lgL A.length).length ≤ 20 := by have := (lgN_le (n := (A.length : Int)) (by omega) (by omega)).2; simp [lgL]; omega
     clear hT2 hO8 HO7 HV7 HE7 Hb7 h8
     generalize hTL : tag :: lgL A.length = TL at *
     have HTL := hide hTL
     clear hTL
     go_wp2_with (at_builtin; refine wpList_append_bs rfl _ _ rfl wr.heap.size _ TL.length (bl TL) rfl HO8.out _ vg 0 A.length vc A2 rfl HV8.out (by omega) hB8 ?_)
     intro v9 w9 hO9 hb9
     rw [← HA2.out, bl_app, ← List.length_append] at hO9
     have HF : Hid (GivesWr W (TL ++ A) (z : Int) (.returned (.tuple #[v9, .int .i64 (z : Int)])) w9) := ⟨v9, rfl, owns_mono hO9 (Below.size HE1.out), Below.trans HE8.out (hb9.mono (Below.size HE1.out))⟩
     clear hO9 hb9 HO8 HV8 HE8
     go_wp2
     go_ret2
     rw [HAA.out, Hz.out, show tag :: (lgL A.length ++ A) = TL ++ A by rw [← HTL.out]; rfl]
     exact HF.out
theorem l1In_any (x lo hi : Int) (w : World) :
  Calls Tryz.prog 64 #[.int .i64 x, .int .i64 lo, .int .i64 hi] w fun e w' => e = .returned (.bool (decide (lo ≤ x) && decide (x ≤ hi))) ∧ w' = w := by
 by_cases h1 : lo ≤ x
 ·by_cases h2 : x ≤ hi
  ·go_enter Tryz.func64, Tryz.ntmps64
   go_wp2
   go_ret
   exact ⟨ret_bool (by simp [h1, h2]), rfl⟩
  ·go_enter Tryz.func64, Tryz.ntmps64
   go_wp2
   go_ret
   exact ⟨ret_bool (by simp; omega), rfl⟩
 ·go_enter Tryz.func64, Tryz.ntmps64
  go_wp2
  go_ret
  exact ⟨ret_bool (by simp; omega), rfl⟩
theorem iys_step {L : List Int} {w wr w1 : World} {v v' : Value} {o : Obj} {x : Int} (hO : wr.ownsRow w.heap.size 3 1 v L.length (iys L)) (hE : Ext w wr)
  (hown : w1.ownsRow w.heap.size 3 1 v' (L.length + 1) (iys L ++ [.int .i64 x])) (hg : (wr.alloc o).grownBy w1 v.ownBlock) : w1.ownsRow w.heap.size 3 1 v' (L ++ [x]).length (iys (L ++ [x])) ∧ Ext w w1 := by
 refine ⟨?_, (Below.alloc hE (Below.size hE) o).grown hg (by have := Below.size hE; simp; omega) (fun j hj => (hO.lt j hj).1)⟩
 simpa [iys] using hown
theorem kidsF_first {f : Nat → Int} (hf : ∀ i, -1 ≤ f i) {K s : Nat} (h : 0 ≤ kidsF f (K + 1) s) : ∃ e : Nat, f s = e ∧ 0 ≤ kidsF f K e := by
 rw [kidsF_front _ hf] at h
 by_cases c : 0 ≤ f s
 ·obtain ⟨e, he⟩ := nat_of c
  rw [he] at h
  exact ⟨e, he, h⟩
 ·have := hf s
  rw [show f s = -1 by omega, kidsF_minus] at h
  omega
set_option maxHeartbeats 1600000 in
set_option maxRecDepth 100000 in
theorem l7Kids_any (b off n cap : Nat) (x : Nat → It) (i : Nat) (w : World) (hs : ISeg w (some ⟨b, off, none⟩) b off n x) (hn : n ≤ 300) (hi : i < n) (hkid : ∀ i, i < n → 0 ≤ (x i).kid ∧ (x i).kid ≤ 300)
  (hF : 0 ≤ kidsF (endF (fun j => (x j).kid) n 13) (x i).kid.toNat ((i + 1 : Nat) : Int)) :
  Calls Tryz.prog 13 #[.slice (some ⟨b, off, none⟩) n cap, .int .i64 (i : Int)] w fun e w' => ∃ v, e = .returned v ∧ w'.ownsRow w.heap.size 3 1 v ((kpF (endF (fun j => (x j).kid) n 13) (x i).kid.toNat (i + 1)).map Int.ofNat).length (iys ((kpF (endF (fun j => (x j).kid) n 13) (x i).kid.toNat (i + 1)).map Int.ofNat)) ∧ Ext w w' := by
 obtain ⟨i0, hi0, hz0, hz1, hz2⟩ := info_parts Tryz.info3
 have HEn : Hid (∀ (s : Nat) (W : World), s ≤ n → Ext w W → Calls Tryz.prog 37 #[.slice (some ⟨b, off, none⟩) n cap, .int .i64 (s : Int), .int .i64 0] W fun e w' => e = .returned (.int .i64 (endF (fun j => (x j).kid) n 13 s)) ∧ Ext W w') := fun s W h1 h2 => l7End_any (some ⟨b, off, none⟩) b off n cap x w hs (by omega) (fun i hi => by have := hkid i hi; omega) 13 s 0 W rfl h1 h2
 have HO := hide (World.ownsRow_made (base := w.heap.size) (e := 3) (size := 1) w #[] 0 (Nat.le_refl _) (by simp) rfl)
 have Hr : Hid (∀ s, -1 ≤ endF (fun j => (x j).kid) n 13 s ∧ endF (fun j => (x j).kid) n 13 s ≤ n) := fun s => endF_range _ n 13 s
 generalize endF (fun j => (x j).kid) n 13 = E at *
 obtain ⟨K, hK⟩ := nat_of (hkid i hi).1
 have hK300 : K ≤ 300 := by have := (hkid i hi).2; omega
 rw [show (x i).kid.toNat = K by omega] at hF ⊢
 have HF := hide hF
 have Hs := hide hs
 have HK := hide hK
 obtain ⟨R, hR⟩ : ∃ R, R = (kpF E K (i + 1)).map Int.ofNat := ⟨_, rfl⟩
 rw [← hR]
 have HR := hide hR
 clear hF hs hK hR hkid
 go_enter Tryz.func13, Tryz.ntmps13
 go_wp2
 go_loopw [5, 6, 7] (fun v s k wr => ∃ (j p : Nat) (acc : List Int), j ≤ K ∧ k = .int .i64 (j : Int) ∧ s = .int .i64 (p : Int) ∧ (j < K → p ≤ n) ∧ 0 ≤ kidsF E (K - j) (p : Int) ∧ acc ++ (kpF E (K - j) p).map Int.ofNat = R ∧ acc.length ≤ j ∧ wr.ownsRow w.heap.size 3 1 v acc.length (iys acc) ∧ Ext w wr) (fun _ _ k _ => K - (intOf k).toNat)
 case atStart => exact ⟨0, i + 1, [], Nat.zero_le _, rfl, by go_num, fun _ => by omega, HF.out, HR.out.symm, Nat.le_refl _, HO.out, Ext.alloc _ _⟩
 case round =>
  clear HO HF HR
  obtain ⟨j, p, acc, hj, rfl, rfl, hp, hF, hA, hl, hO, hE⟩ := hrel
  have HO := hide hO
  have HE := hide hE
  have HA := hide hA
  have hin : (i : Int) < (n : Int) := by omega
  have c2 := (Hs.out.of_all hE).c2 i hi
  rw [HK.out] at c2
  clear hO hE hA
  by_cases hlt : j < K
  ·have hjk : (j : Int) < (K : Int) := by omega
   obtain ⟨e, he, hF2⟩ := kidsF_first (fun s => (Hr.out s).1) (K := K - (j + 1)) (s := p) (by rw [show K - (j + 1) + 1 = K - j by omega]; exact hF)
   have HX : Hid ((acc ++ [(p : Int)]) ++ (kpF E (K - (j + 1)) e).map Int.ofNat = R) := by
    show _ = _
    rw [← HA.out, show K - j = (K - (j + 1)) + 1 by omega, kpF, he]
    simp
   have hep : e ≤ n := by have := (Hr.out p).2; omega
   have hpn := hp hlt
   have HEn2 : Hid (∀ W, Ext w W → Calls Tryz.prog 37 #[.slice (some ⟨b, off, none⟩) n cap, .int .i64 (p : Int), .int .i64 0] W fun e' w' => e' = .returned (.int .i64 (e : Int)) ∧ Ext W w') := fun W h => by have := HEn.out p W hpn h; rw [he] at this; exact this
   have HF2 := hide hF2
   clear hF hF2 he HA
   go_wp2_with (at_builtin; refine wpList_append_own _ rfl _ _ 24 rfl w.heap.size 3 i0 (.int .i64 0) 1 8 Tryz.underlying24 hi0 hz0 hz1 hz2 rfl (by decide) _ _ _ rfl (HO.out.alloc _) ⟨wr.heap.size, 0, none⟩ 1 1 [.int .i64 (p : Int)] rfl rfl (cell_one_new _ _ _) (iys_one _) (by unfold maxLen; omega) (by omega) (by have := Below.size HE.out; simp; omega) ?_; intro v' w4 hown' hgrow hnil)
   have HN := hide (iys_step HO.out HE.out hown' hgrow)
   clear hown' hgrow hnil HO HE
   go_wp2_with (go_at_call 37; refine (HEn2.out _ HN.out.2).mono ?_; rintro e' w5 ⟨rfl, hE5⟩; have HE5 := hide hE5; clear hE5)
   go_roundw
   case rel => exact ⟨j + 1, e, acc ++ [(p : Int)], by omega, by go_num, rfl, fun _ => hep, HF2.out, HX.out, by simp; omega, owns_keep' HN.out.1 HE5.out, Ext.trans HN.out.2 HE5.out⟩
   case measure => simp [intOf]; omega
  ·have hjk : ¬ (j : Int) < (K : Int) := by omega
   obtain rfl : j = K := by omega
   have hend : acc = R := by have h := HA.out; rw [Nat.sub_self, kpF] at h; simpa using h
   subst hend
   go_wp2
   go_ret
   exact ⟨_, rfl, HO.out, HE.out⟩
theorem BOwn.of_blk {w w' : World} {a : Option Addr} {b o n : Nat} {f : Nat → Int} (h : BOwn w a b o n f) (hb : 0 < n → w'.heap[b]? = w.heap[b]?) : BOwn w' a b o n f :=
 ⟨⟨h.at', fun i hi => (World.cell?_of_block (a := ⟨b, o + i, none⟩) (hb (by omega))).trans (h.cell i hi)⟩, fun i hi => (World.frozen?_of_block (a := ⟨b, o + i, none⟩) (hb (by omega))).trans (h.free i hi)⟩
end
end Go.Proofs.YtkogbinfhoiggaaGreatDoor
