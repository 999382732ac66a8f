/- A region that draws its order inside the body of a range over a function: what holds of it outside holds there too, where it defers nothing. Nothing of the program. Walks: hasItem, Children of both. Walks: the model's l7Write: an item and what is below it as bytes. Walks: the model's Part: its loop. Walks: the model's Part. Walks: the program's Part. -/
import Derived.OrdersIn
import Derived.RangeFuncCalls
import Derived.Test.YtmcdikbcmikihaaDoorDz02
import Derived.Test.YtmcdikbcmikihaaDoorDz10
import Derived.Test.YtmcdikbcmikihaaDoorDz05
import Derived.Test.YtmcdikbcmikihaaDoorDz03
import Derived.Test.YtmcdikbcmikihaaDoorChecked
import Derived.Test.YtmcdikbcmikihaaDoorDz01
namespace Go.Proofs.YtmcdikbcmikihaaDoor

section
set_option linter.unusedVariables false

open Go Go.Sort Go.RowKit

section

variable {P : Program} {ops : Array Oper} {md : Region.Mode} {Q : Exit → Act → World → Prop} {n : Nat}

theorem rowsIn_all {row : String} {args : Array Value} {w : World} {R : Value → World → Prop} (h : Rows P row args w R) : RowsIn Fence.wide n P row args w R :=
  fun c cs _ => let ⟨v, w', r, s⟩ := h c cs; ⟨v, w', r, stepsIn_wide.2 s⟩

/-- No operation defers. -/
def noDefer (ops : Array Oper) : Bool := ops.all fun o => match o.op with | .defer _ => false | _ => true

theorem noDefer_spec (h : noDefer ops = true) {i : Nat} {o : Oper} (hi : ops[i]? = some o) : ∀ c, o.op ≠ .defer c := by
  intro c hc
  unfold noDefer at h
  rw [Array.all_eq_true_iff_forall_mem] at h
  have := h o (Array.mem_of_getElem? hi)
  rw [hc] at this
  cases this

theorem wpIn_of_wp {o : Oper} (hd : ∀ c, o.op ≠ .defer c) (l : Nat) {a : Act} {w : World} {K K' : Act → World → Prop} (hK : ∀ a w, K a w → K' a w) (h : o.wp P a w K Q) : o.wpIn (Fence.wide.inRound l) n P a w K' Q := by
  refine ⟨fun _ _ => trivial, ?_⟩
  rw [Oper.semAt_eq _ _ _ hd]
  unfold Oper.wp at h
  generalize (execOp a.eval o).run P w = r at *
  cases r with
  | ok x w' =>
    cases x <;> simp only [Oper.upon] at h <;> simp only [Oper.uponIn]
    case value => exact hK _ _ h
    case skip => exact hK _ _ h
    case defer => exact hK _ _ h
    case enter f args =>
      refine ⟨fun e => (by cases e), ?_⟩
      refine CallsIn.inRound l (callsIn_wide.2 (h.mono ?_))
      intro e w'' he
      cases e <;> first | exact hK _ _ he | exact he
    case row r args =>
      refine ⟨fun e => (by cases e), ?_⟩
      exact rowsIn_all (h.mono fun v w'' he => hK _ _ he)
  | halt x w' => cases x <;> simp only [Oper.upon] at h <;> simp only [Oper.uponIn] <;> exact h

theorem wpAnyIn_of_wpAny (hn : noDefer ops = true) (hL : ¬ LetsOut Q) (l : Nat) : ∀ (f : Nat) (listed : Array Bool) (a : Act) (w : World), wpAny P md ops Q f listed a w → wpAnyIn (Fence.wide.inRound l) n P md ops Q f listed a w
  | 0, _, _, _, h => h
  | f + 1, listed, a, w, h => by
    refine ⟨h.1, fun i hi => ?_⟩
    have k := h.2 i hi
    unfold wpOp at k
    unfold wpOpIn
    cases ho : ops[i]? with
    | none => rw [ho] at k; exact wpAnyIn_of_wpAny hn hL l f _ _ _ k
    | some o =>
      rw [ho] at k
      simp only at k ⊢
      by_cases hw : Region.wanted o (yielded ops a.tmps) = true
      · rw [if_pos hw] at k ⊢
        rcases k with k | ⟨-, k⟩
        · exact wpIn_of_wp (noDefer_spec hn ho) l (fun a w h => wpAnyIn_of_wpAny hn hL l f _ a w h) k
        · exact absurd k hL
      · rw [if_neg hw] at k ⊢
        exact ⟨fun _ _ => trivial, wpAnyIn_of_wpAny hn hL l f _ _ _ k⟩

/-- As anyK_begin, in the body of a range over a function. -/
theorem anyK_beginR {id : Nat} {a : Act} {w : World} {r : List Oper} (X : Nat → Prop) (m : Nat) (hm0 : r.length = m) (hm : P.follows .mixedOrders = true) (hn : noDefer r.toArray = true) (hL : ¬ LetsOut Q) (l : Nat) (h : anyK P .any r.toArray Q X w m (Array.replicate m false) a w) : (Code.region id r.toArray true).wpIn (Fence.wide.inRound l) n P Q a w := by
  subst hm0
  refine wpIn_region_any hm ?_
  have := any_of_S _ _ _ _ _ (show Ext w { w with drawn := w.drawn + 1 } from ⟨rfl, rfl, rfl, Nat.le_refl _, fun _ _ => rfl⟩) (h (Grw.refl X w))
  exact wpAnyIn_of_wpAny hn hL l _ _ _ _ (by simpa using this)

end
end

section
set_option linter.unusedVariables false
set_option linter.unusedSimpArgs false

open Go.RowKit Go.Shelf

attribute [local go_sem] Oper.semAt_some

/-- What Children's own memory holds between two rounds. -/
structure ChI (w w1 : World) (X O : Nat → Prop) (L : List Int) (W : World) : Prop where
  it : ∃ v, W.cell? ⟨w1.heap.size + 1, 0, none⟩ = some v ∧ W.ownsRow w1.heap.size 3 1 v L.length (iys L) ∧ (∀ g, v.ownBlock = some g → ¬ O g ∧ ¬ X g ∧ g ≠ w1.heap.size + 1)
  fz : W.frozen? ⟨w1.heap.size + 1, 0, none⟩ = false
  ours : ∀ k, O k → w1.heap.size + 4 ≤ k
  big : w1.heap.size + 4 ≤ W.heap.size
  ext : Ext w W

theorem ChI.ab {w w1 : World} (hw : w.heap.size ≤ w1.heap.size) (X : Nat → Prop) (L : List Int) : AbO (fun O W => ChI w w1 X O L W) := by
  rintro O O' A C ⟨⟨v, h1, h2, h3⟩, h4, h5, h6, h7⟩ hs
  have hb : C.heap[w1.heap.size + 1]? = A.heap[w1.heap.size + 1]? := hs.same _ (by omega) (fun h => by have := h5 _ h; omega)
  refine ⟨⟨v, ?_, ?_, fun g hg => ⟨fun h => ?_, (h3 g hg).2⟩⟩, ?_, fun k hk => ?_, Nat.le_trans h6 hs.size, ⟨hs.os.trans h7.os, hs.tape.trans h7.tape, hs.output.trans h7.output, Nat.le_trans h7.size hs.size, fun k hk => (hs.same k (by omega) (fun h => by have := h5 _ h; omega)).trans (h7.block k hk)⟩⟩
  · rw [World.cell?_of_block (a := ⟨w1.heap.size + 1, 0, none⟩) hb]; exact h1
  · refine ⟨h2.1, ?_⟩
    rcases h2.2 with h0 | ⟨g, cap, cur, rfl, hbg, hg, rest⟩
    · exact .inl h0
    · exact .inr ⟨g, cap, cur, rfl, hbg, (hs.same g (Array.getElem?_eq_some_iff.1 hg).1 (h3 g rfl).1).trans hg, rest⟩
  · rcases (hs.own g).1 h with h | h
    · exact (h3 g hg).1 h
    · have := owns_blk h2 hg; omega
  · rw [World.frozen?_of_block (a := ⟨w1.heap.size + 1, 0, none⟩) hb]; exact h4
  · rcases (hs.own k).1 hk with h | h
    · exact h5 k h
    · omega
end

section
set_option linter.unusedVariables false
set_option linter.unusedSimpArgs false

open Go.RowKit

theorem l1BytesD_any (a : Option Addr) (b off n cap : Nat) (f : Nat → Int) (w : World) (hB : BSeg w a b off n f) (hn : n ≤ 1099511627776) : Calls Tryd.prog 44 #[.slice a n cap] w fun e w' => GivesR w n f e w' := by
  have hown := World.ownsRow_made (base := w.heap.size) (e := 5) (size := 1) w #[] 0 (Nat.le_refl _) (by simp) rfl
  have Hb := hide (hB.of_all (Ext.alloc w (.cells #[] 5)))
  have Ho := hide hown
  clear hB hown
  go_enter Tryd.func44, Tryd.ntmps44
  go_wp2_with (at_builtin; refine wpList_append_bs rfl _ _ rfl w.heap.size _ 0 [] rfl Ho.out _ b off n cap f rfl Hb.out (by omega) (by simp) ?_)
  intro v' w1 h1 h2
  have HO := hide h1
  clear h1 Ho Hb
  have HE : Hid (Ext w w1) := hide (((Below.refl _ _).alloc (Nat.le_refl _) _).trans h2)
  clear h2
  go_wp2
  go_ret
  have h3 := HO.out
  first | exact ⟨_, rfl, h3, HE.out⟩ | (rw [Nat.zero_add] at h3; exact ⟨_, rfl, h3, HE.out⟩)
end

section
set_option linter.unusedVariables false
set_option linter.unusedSimpArgs false

open Go.RowKit

/-- The same items but for where their bodies lie. -/
def SameI (y : Nat → It) (x : Nat → It) (i m : Nat) : Prop := ∀ j, j < m → (y j).tag = (x (i + j)).tag ∧ (y j).kid = (x (i + j)).kid ∧ (y j).len = (x (i + j)).len ∧ (y j).f = (x (i + j)).f

theorem SameI.step {y x : Nat → It} {i m : Nat} {t : It} (h : SameI y x i m) (h1 : t.tag = (x (i + m)).tag) (h2 : t.kid = (x (i + m)).kid) (h3 : t.len = (x (i + m)).len) (h4 : t.f = (x (i + m)).f) : SameI (updI y m t) x i (m + 1) := fun j hj => by
  by_cases c : j = m
  · subst c; rw [updI_same]; exact ⟨h1, h2, h3, h4⟩
  · rw [updI_other _ _ c]; exact h j (by omega)

theorem IAcc.nil (w : World) : IAcc w.heap.size (w.alloc (.cells #[] 55)) (.slice (some ⟨w.heap.size, 0, none⟩) 0 0) 0 (fun _ => ⟨0, 0, none, 0, 0, 0, 0, fun _ => 0⟩) :=
  ⟨World.ownsRow_made (base := w.heap.size) (e := 55) (size := 3) w #[] 0 (Nat.le_refl _) (by simp) rfl, fun i hi => absurd hi (by omega), fun i hi => absurd hi (by omega), fun i j hi => absurd hi (by omega)⟩
end

section
set_option linter.unusedVariables false
set_option linter.unusedSimpArgs false

open Go.RowKit

theorem ownsRow_keep {w w' : World} {B B' e s n : Nat} {v : Value} {xs : List Value} (ho : w.ownsRow B e s v n xs) (hB : B' ≤ B) (h : ∀ g, v.ownBlock = some g → w'.heap[g]? = w.heap[g]?) : w'.ownsRow B' e s v n xs := by
  refine ⟨ho.1, ?_⟩
  rcases ho.2 with h0 | ⟨g, cap, cur, rfl, hb, hg, rest⟩
  · exact .inl h0
  · exact .inr ⟨g, cap, cur, rfl, Nat.le_trans hB hb, (h g rfl).trans hg, rest⟩

theorem BOwn.of_blk {w w' : World} {a : Option Addr} {b o n : Nat} {f : Nat → Int} (h : BOwn w a b o n f) (hb : 0 < n → w'.heap[b]? = w.heap[b]?) : BOwn w' a b o n f :=
  ⟨⟨h.at', fun i hi => (World.cell?_of_block (a := ⟨b, o + i, none⟩) (hb (by omega))).trans (h.cell i hi)⟩, fun i hi => (World.frozen?_of_block (a := ⟨b, o + i, none⟩) (hb (by omega))).trans (h.free i hi)⟩

theorem IAcc.keep {B B' : Nat} {W w' : World} {v : Value} {m : Nat} {y : Nat → It} (h : IAcc B W v m y) (hB : B' ≤ B) (h1 : ∀ g, v.ownBlock = some g → w'.heap[g]? = W.heap[g]?) (h2 : ∀ i, i < m → 0 < (y i).len → w'.heap[(y i).blk]? = W.heap[(y i).blk]?) : IAcc B' w' v m y :=
  ⟨ownsRow_keep h.row hB h1, fun i hi => (h.body i hi).of_blk (h2 i hi), fun i hi h0 => ⟨(h.away i hi h0).1, Nat.le_trans hB (h.away i hi h0).2⟩, h.apart⟩

theorem IAcc.base {B B' : Nat} {W : World} {v : Value} {m : Nat} {y : Nat → It} (h : IAcc B W v m y) (hB : B' ≤ B) : IAcc B' W v m y := h.keep hB (fun _ _ => rfl) (fun _ _ _ => rfl)
end

section
set_option linter.unusedVariables false
set_option linter.unusedSimpArgs false

open Go.RowKit Go.Shelf

attribute [local go_sem] Oper.semAt_some

/-- Items made of those at the places of L. -/
def SameP (y : Nat → It) (x : Nat → It) (L : List Nat) : Prop := ∀ j, j < L.length → (y j).tag = (x (L.getD j 0)).tag ∧ (y j).kid = (x (L.getD j 0)).kid ∧ (y j).len = (x (L.getD j 0)).len ∧ (y j).f = (x (L.getD j 0)).f

theorem SameP.step {y x : Nat → It} {L : List Nat} {p : Nat} {t : It} (h : SameP y x L) (h1 : t.tag = (x p).tag) (h2 : t.kid = (x p).kid) (h3 : t.len = (x p).len) (h4 : t.f = (x p).f) : SameP (updI y L.length t) x (L ++ [p]) := fun j hj => by
  rw [List.length_append, List.length_singleton] at hj
  by_cases c : j = L.length
  · subst c
    rw [updI_same, List.getD_eq_getElem?_getD, List.getElem?_append_right (Nat.le_refl _), Nat.sub_self]
    exact ⟨h1, h2, h3, h4⟩
  · rw [updI_other _ _ c, List.getD_eq_getElem?_getD, List.getElem?_append_left (by omega), ← List.getD_eq_getElem?_getD]
    exact h j (by omega)

theorem SameP.range {y x : Nat → It} {L : List Nat} {i m : Nat} (h : SameP y x L) (hL : L = List.range' i m) : SameI y x i m := fun j hj => by
  have := h j (by rw [hL, List.length_range']; exact hj)
  rw [hL, List.getD_eq_getElem?_getD, List.getElem?_range' hj, Option.getD_some, Nat.one_mul] at this
  exact this

/-- What Part's own memory holds between two rounds. -/
structure PtI (u w1 : World) (x : Nat → It) (X O : Nat → Prop) (L : List Nat) (W : World) : Prop where
  it : ∃ v y, W.cell? ⟨w1.heap.size + 1, 0, none⟩ = some v ∧ IAcc w1.heap.size W v L.length y ∧ SameP y x L ∧ (∀ g, v.ownBlock = some g → ¬ O g ∧ ¬ X g ∧ g ≠ w1.heap.size + 1) ∧ (∀ j, j < L.length → 0 < (y j).len → ¬ O (y j).blk ∧ ¬ X (y j).blk ∧ (y j).blk ≠ w1.heap.size + 1)
  fz : W.frozen? ⟨w1.heap.size + 1, 0, none⟩ = false
  ours : ∀ k, O k → w1.heap.size + 4 ≤ k
  big : w1.heap.size + 4 ≤ W.heap.size
  ext : Ext u W

theorem PtI.ab {u w1 : World} (hw : u.heap.size ≤ w1.heap.size) (x : Nat → It) (X : Nat → Prop) (L : List Nat) : AbO (fun O W => PtI u w1 x X O L W) := by
  rintro O O' A C ⟨⟨v, y, h1, h2, hS, h3, hb3⟩, h4, h5, h6, h7⟩ hs
  have hb : C.heap[w1.heap.size + 1]? = A.heap[w1.heap.size + 1]? := hs.same _ (by omega) (fun h => by have := h5 _ h; omega)
  have hlt : ∀ g, v.ownBlock = some g → g < A.heap.size := fun g hg => (h2.row.lt g hg).2
  have hbl : ∀ j, j < L.length → 0 < (y j).len → (y j).blk < A.heap.size := fun j hj h0 => (h2.body j hj).lt h0
  refine ⟨⟨v, y, ?_, ?_, hS, fun g hg => ⟨fun h => ?_, (h3 g hg).2⟩, fun j hj h0 => ⟨fun h => ?_, (hb3 j hj h0).2⟩⟩, ?_, fun k hk => ?_, Nat.le_trans h6 hs.size, ⟨hs.os.trans h7.os, hs.tape.trans h7.tape, hs.output.trans h7.output, Nat.le_trans h7.size hs.size, fun k hk => (hs.same k (by omega) (fun h => by have := h5 _ h; omega)).trans (h7.block k hk)⟩⟩
  · rw [World.cell?_of_block (a := ⟨w1.heap.size + 1, 0, none⟩) hb]; exact h1
  · exact h2.keep (Nat.le_refl _) (fun g hg => hs.same g (hlt g hg) (h3 g hg).1) (fun j hj h0 => hs.same _ (hbl j hj h0) (hb3 j hj h0).1)
  · rcases (hs.own g).1 h with h | h
    · exact (h3 g hg).1 h
    · have := hlt g hg; omega
  · rcases (hs.own _).1 h with h | h
    · exact (hb3 j hj h0).1 h
    · have := hbl j hj h0; omega
  · rw [World.frozen?_of_block (a := ⟨w1.heap.size + 1, 0, none⟩) hb]; exact h4
  · rcases (hs.own k).1 hk with h | h
    · exact h5 k h
    · omega
end

end Go.Proofs.YtmcdikbcmikihaaDoor
