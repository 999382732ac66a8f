/- A region that draws its order inside the body of a range over a function: what holds of it outside holds there too, where it defers nothing. Nothing of the program. Numbers: what an iterator tells of a part of a tree: its places one behind the other, its children where one is around. Nothing of the program. Walks: hasItem, Children of both. Walks: the model's Part: its loop. Walks: the model's Part. Walks: the program's Part. -/
import Derived.OrdersIn
import Derived.RangeFuncCalls
import Derived.Test.YtmcdikbcmikihaaDoorSq02
import Derived.Test.YtmcdikbcmikihaaDoorSq03
import Derived.Test.YtmcdikbcmikihaaDoorSq04
import Derived.Test.YtmcdikbcmikihaaDoorSq13
import Derived.Test.YtmcdikbcmikihaaDoorSq05
import Derived.Test.YtmcdikbcmikihaaDoorSq08
import Derived.Test.YtmcdikbcmikihaaDoorChecked
import Derived.Test.YtmcdikbcmikihaaDoorSq01
namespace Go.Proofs.YtmcdikbcmikihaaDoor

section
set_option linter.unusedVariables false

open Go Go.Sort Go.RowKit

section

variable {P : Program} {ops : Array Oper} {md : Region.Mode} {Q : Exit → Act → World → Prop} {n : Nat}

theorem rowsIn_all {row : String} {args : Array Value} {w : World} {R : Value → World → Prop} (h : Rows P row args w R) : RowsIn Fence.wide n P row args w R :=
  fun c cs _ => let ⟨v, w', r, s⟩ := h c cs; ⟨v, w', r, stepsIn_wide.2 s⟩

/-- No operation defers. -/
def noDefer (ops : Array Oper) : Bool := ops.all fun o => match o.op with | .defer _ => false | _ => true

theorem noDefer_spec (h : noDefer ops = true) {i : Nat} {o : Oper} (hi : ops[i]? = some o) : ∀ c, o.op ≠ .defer c := by
  intro c hc
  unfold noDefer at h
  rw [Array.all_eq_true_iff_forall_mem] at h
  have := h o (Array.mem_of_getElem? hi)
  rw [hc] at this
  cases this

theorem wpIn_of_wp {o : Oper} (hd : ∀ c, o.op ≠ .defer c) (l : Nat) {a : Act} {w : World} {K K' : Act → World → Prop} (hK : ∀ a w, K a w → K' a w) (h : o.wp P a w K Q) : o.wpIn (Fence.wide.inRound l) n P a w K' Q := by
  refine ⟨fun _ _ => trivial, ?_⟩
  rw [Oper.semAt_eq _ _ _ hd]
  unfold Oper.wp at h
  generalize (execOp a.eval o).run P w = r at *
  cases r with
  | ok x w' =>
    cases x <;> simp only [Oper.upon] at h <;> simp only [Oper.uponIn]
    case value => exact hK _ _ h
    case skip => exact hK _ _ h
    case defer => exact hK _ _ h
    case enter f args =>
      refine ⟨fun e => (by cases e), ?_⟩
      refine CallsIn.inRound l (callsIn_wide.2 (h.mono ?_))
      intro e w'' he
      cases e <;> first | exact hK _ _ he | exact he
    case row r args =>
      refine ⟨fun e => (by cases e), ?_⟩
      exact rowsIn_all (h.mono fun v w'' he => hK _ _ he)
  | halt x w' => cases x <;> simp only [Oper.upon] at h <;> simp only [Oper.uponIn] <;> exact h

theorem wpAnyIn_of_wpAny (hn : noDefer ops = true) (hL : ¬ LetsOut Q) (l : Nat) : ∀ (f : Nat) (listed : Array Bool) (a : Act) (w : World), wpAny P md ops Q f listed a w → wpAnyIn (Fence.wide.inRound l) n P md ops Q f listed a w
  | 0, _, _, _, h => h
  | f + 1, listed, a, w, h => by
    refine ⟨h.1, fun i hi => ?_⟩
    have k := h.2 i hi
    unfold wpOp at k
    unfold wpOpIn
    cases ho : ops[i]? with
    | none => rw [ho] at k; exact wpAnyIn_of_wpAny hn hL l f _ _ _ k
    | some o =>
      rw [ho] at k
      simp only at k ⊢
      by_cases hw : Region.wanted o (yielded ops a.tmps) = true
      · rw [if_pos hw] at k ⊢
        rcases k with k | ⟨-, k⟩
        · exact wpIn_of_wp (noDefer_spec hn ho) l (fun a w h => wpAnyIn_of_wpAny hn hL l f _ a w h) k
        · exact absurd k hL
      · rw [if_neg hw] at k ⊢
        exact ⟨fun _ _ => trivial, wpAnyIn_of_wpAny hn hL l f _ _ _ k⟩

/-- As anyK_begin, in the body of a range over a function. -/
theorem anyK_beginR {id : Nat} {a : Act} {w : World} {r : List Oper} (X : Nat → Prop) (m : Nat) (hm0 : r.length = m) (hm : P.follows .mixedOrders = true) (hn : noDefer r.toArray = true) (hL : ¬ LetsOut Q) (l : Nat) (h : anyK P .any r.toArray Q X w m (Array.replicate m false) a w) : (Go.Code.region id r.toArray true).wpIn (Fence.wide.inRound l) n P Q a w := by
  subst hm0
  refine wpIn_region_any hm ?_
  have := any_of_S _ _ _ _ _ (show Ext w { w with drawn := w.drawn + 1 } from ⟨rfl, rfl, rfl, Nat.le_refl _, fun _ _ => rfl⟩) (h (Grw.refl X w))
  exact wpAnyIn_of_wpAny hn hL l _ _ _ _ (by simpa using this)

end
end

section
set_option linter.unusedVariables false
set_option linter.unusedSimpArgs false

theorem nat_of {z : Int} (h : 0 ≤ z) : ∃ e : Nat, z = e := ⟨z.toNat, by omega⟩

theorem kidsF_mono {f g : Nat → Int} (h : ∀ i, 0 ≤ f i → g i = f i) : ∀ (k : Nat) (s : Int), 0 ≤ kidsF f k s → kidsF g k s = kidsF f k s
  | 0, s, _ => rfl
  | k + 1, s, h0 => by
    unfold kidsF at h0 ⊢
    by_cases c : kidsF f k s < 0
    · rw [if_pos c] at h0; omega
    · rw [if_neg c] at h0 ⊢
      rw [kidsF_mono h k s (by omega), if_neg c]
      exact h _ h0

theorem endF_mono (kid : Nat → Int) (n : Nat) : ∀ (m i : Nat), 0 ≤ endF kid n m i → endF kid n (m + 1) i = endF kid n m i
  | 0, i, h => by simp [endF] at h
  | m + 1, i, h => by
    rw [endF] at h ⊢
    rw [endF]
    split
    · rfl
    · rename_i c
      rw [if_neg c] at h
      exact kidsF_mono (endF_mono kid n m) _ _ h

theorem kidsF_within {f : Nat → Int} (hf : ∀ i, 0 ≤ f i → (i : Int) + 1 ≤ f i) : ∀ (K : Nat) (s j : Nat), 0 ≤ kidsF f K s → s ≤ j → (j : Int) < kidsF f K s → ∃ s' : Nat, s' ≤ j ∧ (j : Int) < f s' ∧ f s' ≤ kidsF f K s
  | 0, s, j, h0, h1, h2 => by simp only [kidsF] at h2; omega
  | K + 1, s, j, h0, h1, h2 => by
    unfold kidsF at h0 h2 ⊢
    by_cases c : kidsF f K s < 0
    · rw [if_pos c] at h0; omega
    · rw [if_neg c] at h0 h2 ⊢
      obtain ⟨e, he⟩ := nat_of (show 0 ≤ kidsF f K s by omega)
      rw [he] at h0 h2 ⊢
      simp only [Int.toNat_natCast] at h0 h2 ⊢
      have hfar := hf e h0
      by_cases d : j < e
      · obtain ⟨s', a1, a2, a3⟩ := kidsF_within hf K s j (by omega) h1 (by omega)
        exact ⟨s', a1, a2, by omega⟩
      · exact ⟨e, by omega, h2, Int.le_refl _⟩

theorem endF_within (kid : Nat → Int) (n : Nat) : ∀ (m i j : Nat), 0 ≤ endF kid n m i → i ≤ j → (j : Int) < endF kid n m i → 0 ≤ endF kid n m j
  | 0, i, j, h, _, _ => by simp [endF] at h
  | m + 1, i, j, h0, h1, h2 => by
    by_cases e : j = i
    · subst e; exact h0
    · rw [endF] at h0 h2
      by_cases c : n ≤ i
      · rw [if_pos c] at h0; omega
      · rw [if_neg c] at h0 h2
        obtain ⟨s', a1, a2, a3⟩ := kidsF_within (fun i hi => endF_far kid n m i hi) _ (i + 1) j (by exact_mod_cast h0) (by omega) (by exact_mod_cast h2)
        have h3 := endF_within kid n m s' j (by omega) a1 a2
        rw [endF_mono kid n m j h3]
        exact h3

/-- The places of kids, each where the one ahead ends. -/
def kpF (f : Nat → Int) : Nat → Nat → List Nat
  | 0, _ => []
  | k + 1, s => s :: kpF f k (f s).toNat

/-- What lies behind: the next one on the stack, from e on. -/
def restP (kid : Nat → Int) (n e : Nat) (st : List Nat) : List (Nat × Nat) := match popF st with
  | none => []
  | some st' => trP kid (n - e) e st'

/-- A part of what is told: places s up to e, all deeper than d, the kids of one at d being those. -/
structure SubT (d s e : Nat) (T : List (Nat × Nat)) (kp : List Nat) : Prop where
  deep : ∀ p ∈ T, d < p.2
  places : T.map (·.1) = List.range' s (e - s)
  kids : (T.filter (fun p => p.2 == d + 1)).map (·.1) = kp
  le : s ≤ e

theorem range'_cat (s a b : Nat) (h1 : s ≤ a) (h2 : a ≤ b) : List.range' s (a - s) ++ List.range' a (b - a) = List.range' s (b - s) := by
  have := List.range'_append (s := s) (m := a - s) (n := b - a) (step := 1)
  rw [Nat.one_mul, show s + (a - s) = a by omega, show a - s + (b - a) = b - s by omega] at this
  exact this

theorem sub_kids (kid : Nat → Int) (n m : Nat)
    (C : ∀ (i e : Nat) (st : List Nat), i < n → endF kid n m i = (e : Int) → ∃ T, trP kid (n - i) i st = (i, st.length) :: T ++ restP kid n e st ∧ (∀ p ∈ T, st.length < p.2) ∧ T.map (·.1) = List.range' (i + 1) (e - (i + 1)))
    (st : List Nat) : ∀ (K s e : Nat), s ≤ n → kidsF (endF kid n m) K s = (e : Int) → ∃ T, restP kid n s (K :: st) = T ++ restP kid n e st ∧ SubT st.length s e T (kpF (endF kid n m) K s)
  | 0, s, e, hs, he => by
    simp only [kidsF] at he
    obtain rfl : s = e := by omega
    exact ⟨[], rfl, ⟨fun p hp => absurd hp (by simp), by simp, rfl, Nat.le_refl _⟩⟩
  | K + 1, s, e, hs, he => by
    rw [kidsF_front _ (fun i => (endF_range kid n m i).1)] at he
    have h0 : 0 ≤ endF kid n m s := by
      by_cases c : 0 ≤ endF kid n m s
      · exact c
      · have := (endF_range kid n m s).1
        rw [show endF kid n m s = -1 by omega, kidsF_minus] at he
        omega
    obtain ⟨e1, h1⟩ := nat_of h0
    have hfar := endF_far kid n m s h0
    have hr := (endF_range kid n m s).2
    have hsn : s < n := by omega
    obtain ⟨T1, a1, a2, a3⟩ := C s e1 (K :: st) hsn h1
    rw [h1] at he
    obtain ⟨T2, b1, b2⟩ := sub_kids kid n m C st K e1 e (by omega) he
    refine ⟨(s, st.length + 1) :: T1 ++ T2, ?_, ?_⟩
    · show trP kid (n - s) s (K :: st) = _
      rw [a1, b1]
      simp
    · have hle := b2.le
      refine ⟨fun p hp => ?_, ?_, ?_, by omega⟩
      · rcases List.mem_append.1 hp with h | h
        · rcases List.mem_cons.1 h with rfl | h
          · exact Nat.lt_succ_self _
          · have := a2 p h; simp at this; omega
        · exact b2.deep p h
      · rw [List.map_append, List.map_cons, a3, b2.places, ← range'_cat s e1 e (by omega) hle]
        congr 1
        rw [show e1 - s = (e1 - (s + 1)) + 1 by omega, List.range'_succ]
      · rw [List.filter_append, List.map_append, b2.kids, List.filter_cons_of_pos (by simp), List.filter_eq_nil_iff.2 (fun p hp => by have := a2 p hp; simp at this ⊢; omega)]
        rw [kpF, h1]
        rfl

theorem sub_tree (kid : Nat → Int) (n : Nat) : ∀ (m i e : Nat) (st : List Nat), i < n → endF kid n m i = (e : Int) → ∃ T, trP kid (n - i) i st = (i, st.length) :: T ++ restP kid n e st ∧ (∀ p ∈ T, st.length < p.2) ∧ T.map (·.1) = List.range' (i + 1) (e - (i + 1))
  | 0, i, e, st, hi, he => by simp [endF] at he
  | m + 1, i, e, st, hi, he => by
    rw [endF, if_neg (by omega)] at he
    obtain ⟨T, h1, h2⟩ := sub_kids kid n m (fun i e st => sub_tree kid n m i e st) st (kid i).toNat (i + 1) e (by omega) (by exact_mod_cast he)
    refine ⟨T, ?_, h2.deep, h2.places⟩
    have hx : trP kid (n - i) i st = (i, st.length) :: restP kid n (i + 1) ((kid i).toNat :: st) := by
      rw [show n - i = (n - (i + 1)) + 1 by omega, trP]
      unfold restP
      cases popF ((kid i).toNat :: st) <;> rfl
    rw [hx, h1]
    simp

theorem kpF_mono {f g : Nat → Int} (h : ∀ i, 0 ≤ f i → g i = f i) (hf : ∀ i, -1 ≤ f i) : ∀ (K s : Nat), 0 ≤ kidsF f K s → kpF g K s = kpF f K s
  | 0, s, _ => rfl
  | K + 1, s, h0 => by
    rw [kidsF_front _ hf] at h0
    have h1 : 0 ≤ f s := by
      by_cases c : 0 ≤ f s
      · exact c
      · have := hf s
        rw [show f s = -1 by omega, kidsF_minus] at h0
        omega
    obtain ⟨e, he⟩ := nat_of h1
    rw [kpF, kpF, h s h1, he, Int.toNat_natCast]
    rw [he] at h0
    rw [kpF_mono h hf K e h0]

/-- What is told of the part at i of a right tree. -/
theorem tree_part {x : Nat → It} {n i : Nat} (ht : treeV x n = true) (hi : i < n) : ∃ (e : Nat) (T : List (Nat × Nat)), endF (fun j => (x j).kid) n 13 i = (e : Int) ∧ i < e ∧ e ≤ n ∧ trP (fun j => (x j).kid) (n - i) i [] = (i, 0) :: T ∧ SubT 0 (i + 1) e T (kpF (endF (fun j => (x j).kid) n 13) (x i).kid.toNat (i + 1)) := by
  unfold treeV at ht
  rw [decide_eq_true_eq] at ht
  obtain ⟨h1, h2, h3, h4⟩ := ht
  have h5 := endF_within (fun j => (x j).kid) n 13 0 i (by omega) (Nat.zero_le _) (by omega)
  obtain ⟨e, he⟩ := nat_of h5
  have hfar := endF_far _ n 13 i h5
  have hr := (endF_range (fun j => (x j).kid) n 13 i).2
  have he2 := he
  rw [endF, if_neg (by omega)] at he2
  obtain ⟨T, a1, a2⟩ := sub_kids (fun j => (x j).kid) n 12 (fun i e st => sub_tree _ n 12 i e st) [] (x i).kid.toNat (i + 1) e (by omega) (by exact_mod_cast he2)
  refine ⟨e, T, he, by omega, by omega, ?_, ?_⟩
  · have hx : trP (fun j => (x j).kid) (n - i) i [] = (i, 0) :: restP (fun j => (x j).kid) n (i + 1) ((x i).kid.toNat :: []) := by
      rw [show n - i = (n - (i + 1)) + 1 by omega, trP]
      unfold restP
      cases popF ((x i).kid.toNat :: []) <;> rfl
    rw [hx, a1]
    simp [restP, popF]
  · rw [kpF_mono (endF_mono _ n 12) (fun i => (endF_range _ n 12 i).1) _ _ (by rw [show (((i + 1 : Nat)) : Int) = (i : Int) + 1 by omega, he2]; omega)]
    exact a2
end

section
set_option linter.unusedVariables false
set_option linter.unusedSimpArgs false

open Go.RowKit Go.Shelf

attribute [local go_sem] Oper.semAt_some

theorem tree_good {x : Nat → It} {n : Nat} (h : treeV x n = true) : 1 ≤ n ∧ n ≤ 300 ∧ ∀ i, i < n → itGood (x i) := by
  unfold treeV at h
  rw [decide_eq_true_eq] at h
  exact ⟨h.1, h.2.1, h.2.2.1⟩

/-- What Children's own memory holds between two rounds. -/
structure ChI (w w1 : World) (X O : Nat → Prop) (L : List Int) (W : World) : Prop where
  it : ∃ v, W.cell? ⟨w1.heap.size + 1, 0, none⟩ = some v ∧ W.ownsRow w1.heap.size 3 1 v L.length (iys L) ∧ (∀ g, v.ownBlock = some g → ¬ O g ∧ ¬ X g ∧ g ≠ w1.heap.size + 1)
  fz : W.frozen? ⟨w1.heap.size + 1, 0, none⟩ = false
  ours : ∀ k, O k → w1.heap.size + 4 ≤ k
  big : w1.heap.size + 4 ≤ W.heap.size
  ext : Ext w W

theorem ChI.ab {w w1 : World} (hw : w.heap.size ≤ w1.heap.size) (X : Nat → Prop) (L : List Int) : AbO (fun O W => ChI w w1 X O L W) := by
  rintro O O' A C ⟨⟨v, h1, h2, h3⟩, h4, h5, h6, h7⟩ hs
  have hb : C.heap[w1.heap.size + 1]? = A.heap[w1.heap.size + 1]? := hs.same _ (by omega) (fun h => by have := h5 _ h; omega)
  refine ⟨⟨v, ?_, ?_, fun g hg => ⟨fun h => ?_, (h3 g hg).2⟩⟩, ?_, fun k hk => ?_, Nat.le_trans h6 hs.size, ⟨hs.os.trans h7.os, hs.tape.trans h7.tape, hs.output.trans h7.output, Nat.le_trans h7.size hs.size, fun k hk => (hs.same k (by omega) (fun h => by have := h5 _ h; omega)).trans (h7.block k hk)⟩⟩
  · rw [World.cell?_of_block (a := ⟨w1.heap.size + 1, 0, none⟩) hb]; exact h1
  · refine ⟨h2.1, ?_⟩
    rcases h2.2 with h0 | ⟨g, cap, cur, rfl, hbg, hg, rest⟩
    · exact .inl h0
    · exact .inr ⟨g, cap, cur, rfl, hbg, (hs.same g (Array.getElem?_eq_some_iff.1 hg).1 (h3 g rfl).1).trans hg, rest⟩
  · rcases (hs.own g).1 h with h | h
    · exact (h3 g hg).1 h
    · have := owns_blk h2 hg; omega
  · rw [World.frozen?_of_block (a := ⟨w1.heap.size + 1, 0, none⟩) hb]; exact h4
  · rcases (hs.own k).1 hk with h | h
    · exact h5 k h
    · omega
end

section
set_option linter.unusedVariables false
set_option linter.unusedSimpArgs false

open Go.RowKit

/-- The same items but for where their bodies lie. -/
def SameI (y : Nat → It) (x : Nat → It) (i m : Nat) : Prop := ∀ j, j < m → (y j).tag = (x (i + j)).tag ∧ (y j).kid = (x (i + j)).kid ∧ (y j).len = (x (i + j)).len ∧ (y j).f = (x (i + j)).f

theorem SameI.step {y x : Nat → It} {i m : Nat} {t : It} (h : SameI y x i m) (h1 : t.tag = (x (i + m)).tag) (h2 : t.kid = (x (i + m)).kid) (h3 : t.len = (x (i + m)).len) (h4 : t.f = (x (i + m)).f) : SameI (updI y m t) x i (m + 1) := fun j hj => by
  by_cases c : j = m
  · subst c; rw [updI_same]; exact ⟨h1, h2, h3, h4⟩
  · rw [updI_other _ _ c]; exact h j (by omega)

theorem IAcc.nil (w : World) : IAcc w.heap.size (w.alloc (.cells #[] 55)) (.slice (some ⟨w.heap.size, 0, none⟩) 0 0) 0 (fun _ => ⟨0, 0, none, 0, 0, 0, 0, fun _ => 0⟩) :=
  ⟨World.ownsRow_made (base := w.heap.size) (e := 55) (size := 3) w #[] 0 (Nat.le_refl _) (by simp) rfl, fun i hi => absurd hi (by omega), fun i hi => absurd hi (by omega), fun i j hi => absurd hi (by omega)⟩
end

section
set_option linter.unusedVariables false
set_option linter.unusedSimpArgs false

open Go.RowKit

theorem ownsRow_keep {w w' : World} {B B' e s n : Nat} {v : Value} {xs : List Value} (ho : w.ownsRow B e s v n xs) (hB : B' ≤ B) (h : ∀ g, v.ownBlock = some g → w'.heap[g]? = w.heap[g]?) : w'.ownsRow B' e s v n xs := by
  refine ⟨ho.1, ?_⟩
  rcases ho.2 with h0 | ⟨g, cap, cur, rfl, hb, hg, rest⟩
  · exact .inl h0
  · exact .inr ⟨g, cap, cur, rfl, Nat.le_trans hB hb, (h g rfl).trans hg, rest⟩

theorem BOwn.of_blk {w w' : World} {a : Option Addr} {b o n : Nat} {f : Nat → Int} (h : BOwn w a b o n f) (hb : 0 < n → w'.heap[b]? = w.heap[b]?) : BOwn w' a b o n f :=
  ⟨⟨h.at', fun i hi => (World.cell?_of_block (a := ⟨b, o + i, none⟩) (hb (by omega))).trans (h.cell i hi)⟩, fun i hi => (World.frozen?_of_block (a := ⟨b, o + i, none⟩) (hb (by omega))).trans (h.free i hi)⟩

theorem IAcc.keep {B B' : Nat} {W w' : World} {v : Value} {m : Nat} {y : Nat → It} (h : IAcc B W v m y) (hB : B' ≤ B) (h1 : ∀ g, v.ownBlock = some g → w'.heap[g]? = W.heap[g]?) (h2 : ∀ i, i < m → 0 < (y i).len → w'.heap[(y i).blk]? = W.heap[(y i).blk]?) : IAcc B' w' v m y :=
  ⟨ownsRow_keep h.row hB h1, fun i hi => (h.body i hi).of_blk (h2 i hi), fun i hi h0 => ⟨(h.away i hi h0).1, Nat.le_trans hB (h.away i hi h0).2⟩, h.apart⟩

theorem IAcc.base {B B' : Nat} {W : World} {v : Value} {m : Nat} {y : Nat → It} (h : IAcc B W v m y) (hB : B' ≤ B) : IAcc B' W v m y := h.keep hB (fun _ _ => rfl) (fun _ _ _ => rfl)
end

section
set_option linter.unusedVariables false
set_option linter.unusedSimpArgs false

open Go.RowKit Go.Shelf

attribute [local go_sem] Oper.semAt_some

/-- Items made of those at the places of L. -/
def SameP (y : Nat → It) (x : Nat → It) (L : List Nat) : Prop := ∀ j, j < L.length → (y j).tag = (x (L.getD j 0)).tag ∧ (y j).kid = (x (L.getD j 0)).kid ∧ (y j).len = (x (L.getD j 0)).len ∧ (y j).f = (x (L.getD j 0)).f

theorem SameP.step {y x : Nat → It} {L : List Nat} {p : Nat} {t : It} (h : SameP y x L) (h1 : t.tag = (x p).tag) (h2 : t.kid = (x p).kid) (h3 : t.len = (x p).len) (h4 : t.f = (x p).f) : SameP (updI y L.length t) x (L ++ [p]) := fun j hj => by
  rw [List.length_append, List.length_singleton] at hj
  by_cases c : j = L.length
  · subst c
    rw [updI_same, List.getD_eq_getElem?_getD, List.getElem?_append_right (Nat.le_refl _), Nat.sub_self]
    exact ⟨h1, h2, h3, h4⟩
  · rw [updI_other _ _ c, List.getD_eq_getElem?_getD, List.getElem?_append_left (by omega), ← List.getD_eq_getElem?_getD]
    exact h j (by omega)

theorem SameP.range {y x : Nat → It} {L : List Nat} {i m : Nat} (h : SameP y x L) (hL : L = List.range' i m) : SameI y x i m := fun j hj => by
  have := h j (by rw [hL, List.length_range']; exact hj)
  rw [hL, List.getD_eq_getElem?_getD, List.getElem?_range' hj, Option.getD_some, Nat.one_mul] at this
  exact this

/-- What Part's own memory holds between two rounds. -/
structure PtI (u w1 : World) (x : Nat → It) (X O : Nat → Prop) (L : List Nat) (W : World) : Prop where
  it : ∃ v y, W.cell? ⟨w1.heap.size + 1, 0, none⟩ = some v ∧ IAcc w1.heap.size W v L.length y ∧ SameP y x L ∧ (∀ g, v.ownBlock = some g → ¬ O g ∧ ¬ X g ∧ g ≠ w1.heap.size + 1) ∧ (∀ j, j < L.length → 0 < (y j).len → ¬ O (y j).blk ∧ ¬ X (y j).blk ∧ (y j).blk ≠ w1.heap.size + 1)
  fz : W.frozen? ⟨w1.heap.size + 1, 0, none⟩ = false
  ours : ∀ k, O k → w1.heap.size + 4 ≤ k
  big : w1.heap.size + 4 ≤ W.heap.size
  ext : Ext u W

theorem PtI.ab {u w1 : World} (hw : u.heap.size ≤ w1.heap.size) (x : Nat → It) (X : Nat → Prop) (L : List Nat) : AbO (fun O W => PtI u w1 x X O L W) := by
  rintro O O' A C ⟨⟨v, y, h1, h2, hS, h3, hb3⟩, h4, h5, h6, h7⟩ hs
  have hb : C.heap[w1.heap.size + 1]? = A.heap[w1.heap.size + 1]? := hs.same _ (by omega) (fun h => by have := h5 _ h; omega)
  have hlt : ∀ g, v.ownBlock = some g → g < A.heap.size := fun g hg => (h2.row.lt g hg).2
  have hbl : ∀ j, j < L.length → 0 < (y j).len → (y j).blk < A.heap.size := fun j hj h0 => (h2.body j hj).lt h0
  refine ⟨⟨v, y, ?_, ?_, hS, fun g hg => ⟨fun h => ?_, (h3 g hg).2⟩, fun j hj h0 => ⟨fun h => ?_, (hb3 j hj h0).2⟩⟩, ?_, fun k hk => ?_, Nat.le_trans h6 hs.size, ⟨hs.os.trans h7.os, hs.tape.trans h7.tape, hs.output.trans h7.output, Nat.le_trans h7.size hs.size, fun k hk => (hs.same k (by omega) (fun h => by have := h5 _ h; omega)).trans (h7.block k hk)⟩⟩
  · rw [World.cell?_of_block (a := ⟨w1.heap.size + 1, 0, none⟩) hb]; exact h1
  · exact h2.keep (Nat.le_refl _) (fun g hg => hs.same g (hlt g hg) (h3 g hg).1) (fun j hj h0 => hs.same _ (hbl j hj h0) (hb3 j hj h0).1)
  · rcases (hs.own g).1 h with h | h
    · exact (h3 g hg).1 h
    · have := hlt g hg; omega
  · rcases (hs.own _).1 h with h | h
    · exact (hb3 j hj h0).1 h
    · have := hbl j hj h0; omega
  · rw [World.frozen?_of_block (a := ⟨w1.heap.size + 1, 0, none⟩) hb]; exact h4
  · rcases (hs.own k).1 hk with h | h
    · exact h5 k h
    · omega
end

end Go.Proofs.YtmcdikbcmikihaaDoor
