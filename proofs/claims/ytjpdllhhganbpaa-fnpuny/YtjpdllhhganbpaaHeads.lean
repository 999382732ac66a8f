/- A region that draws its order: operations that read and calls that lay blocks may be taken first, in the order of the text, though an allocation or a store of the region floats among them. Nothing of the program. -/
import Derived.Lib.QuietBelow
import Derived.OrdersHeld
import Derived.StillTail
namespace Go.Proofs.Ytjpdllhhganbpaa
set_option linter.unusedVariables false
open Go Go.Sort Go.RowKit

/-- w' is w with blocks laid behind it. -/
def Ext (w w' : World) : Prop := Below w.heap.size w w'

theorem Ext.refl (w : World) : Ext w w := Below.refl _ _
theorem Ext.trans {a b c : World} (h : Ext a b) (k : Ext b c) : Ext a c := Below.trans h (Below.mono k (Below.size h))

/-- What is known of the world, and stays true when blocks are laid. -/
structure Kept (C G : World → Prop) : Prop where
  sub : ∀ w, G w → C w
  up : ∀ w w', G w → Ext w w' → G w'

section
variable {P : Program} {ops : Array Oper} {md : Region.Mode} {Q : Exit → Act → World → Prop} {C : World → Prop}

def opS (P : Program) (ops : Array Oper) (Q : Exit → Act → World → Prop) (C : World → Prop) (i : Nat) (K : Act → (World → Prop) → Prop) (a : Act) (G : World → Prop) : Prop :=
  ∀ w, G w → wpOp P ops Q i (fun a' w' => ∃ G', Kept C G' ∧ G' w' ∧ K a' G') a w

/-- Whatever order is picked from here on, of the world G being known. -/
def anyS (P : Program) (md : Region.Mode) (ops : Array Oper) (Q : Exit → Act → World → Prop) (C : World → Prop) : Nat → Array Bool → Act → (World → Prop) → Prop
  | 0, listed, a, G => Region.ready md ops listed = [] ∧ ∀ w, G w → Q .normal a w
  | f + 1, listed, a, G => (Region.ready md ops listed = [] → ∀ w, G w → Q .normal a w) ∧ ∀ i ∈ Region.ready md ops listed, opS P ops Q C i (anyS P md ops Q C f (listed.setIfInBounds i true)) a G

theorem any_of_S : ∀ (f : Nat) (listed : Array Bool) (a : Act) (G : World → Prop) (w : World), G w → anyS P md ops Q C f listed a G → wpAny P md ops Q f listed a w
  | 0, _, _, _, w, hG, h => ⟨h.1, h.2 w hG⟩
  | f + 1, _, _, _, w, hG, h => ⟨fun e => h.1 e w hG, fun i hi => wpOp_mono (fun a' w' ⟨G', _, hw, hr⟩ => any_of_S f _ a' G' w' hw hr) (h.2 i hi w hG)⟩

/-- An operation that yields v and lays blocks at most, wherever C holds. -/
def YieldsE (P : Program) (ops : Array Oper) (C : World → Prop) (o : Oper) (v : Value) (a : Act) : Prop :=
  (Region.wanted o (yielded ops a.tmps) = true ∧ ∀ w, C w → o.quietAt P a (Ext w) w v) ∨ (Region.wanted o (yielded ops a.tmps) = false ∧ v = undef)

theorem YieldsE.same {o : Oper} {v : Value} {a a' : Act} (hy : YieldsE P ops C o v a) (he : execOp a'.eval o = execOp a.eval o) (hw : Region.wanted o (yielded ops a'.tmps) = Region.wanted o (yielded ops a.tmps)) : YieldsE P ops C o v a' := by
  unfold YieldsE Oper.quietAt at *
  rw [he, hw]
  exact hy

theorem quiet_runs {o : Oper} {a : Act} {w : World} {v : Value} {K : Act → World → Prop} (h : o.quietAt P a (Ext w) w v) (hk : ∀ w', Ext w w' → K (a.put o.dst v) w') : o.wp P a w K Q := by
  unfold Oper.quietAt at h
  unfold Oper.wp
  generalize (execOp a.eval o).run P w = r at h ⊢
  rcases r with ⟨n, w'⟩ | ⟨x, w'⟩
  · cases n with
    | value u => obtain ⟨rfl, rfl⟩ := h; exact hk _ (Ext.refl _)
    | skip => obtain ⟨rfl, rfl⟩ := h; exact hk _ (Ext.refl _)
    | enter f args => obtain ⟨rfl, hc⟩ := h; exact hc.mono fun e w'' ⟨he, hw⟩ => by subst he; exact hk _ hw
    | defer d => exact h.elim
    | row s args => exact h.elim
    | _ => exact h.elim
  · exact h.elim

theorem YieldsE.runs {i : Nat} {o : Oper} {v : Value} {a : Act} (hi : ops[i]? = some o) (hy : YieldsE P ops C o v a) {K : Act → World → Prop} {w : World} (hC : C w) (hk : ∀ w', Ext w w' → K (a.put o.dst v) w') : wpOp P ops Q i K a w := by
  unfold wpOp
  rw [hi]
  rcases hy with ⟨hw, hv⟩ | ⟨hw, rfl⟩
  · simp only [hw, if_true]
    exact Or.inl (quiet_runs (hv w hC) hk)
  · simp only [hw, Bool.false_eq_true, if_false]
    exact hk _ (Ext.refl _)

/-- What an operation leaves of the frame: its own slot turned, more deferred calls perhaps. -/
theorem wpOp_slot {j : Nat} {oj : Oper} {K : Act → World → Prop} {a : Act} {w : World} (hj : ops[j]? = some oj) (h : wpOp P ops Q j K a w) :
    wpOp P ops Q j (fun a' w' => (∃ ds u, a' = ({ a with defers := ds } : Act).put oj.dst u) ∧ K a' w') a w := by
  unfold wpOp at h ⊢
  rw [hj] at h ⊢
  by_cases hw : Region.wanted oj (yielded ops a.tmps) = true
  · simp only [hw, if_true] at h ⊢
    rcases h with h | h
    · left
      unfold Oper.wp at h ⊢
      generalize (execOp a.eval oj).run P w = r at h ⊢
      rcases r with ⟨n, w'⟩ | ⟨x, w'⟩
      · cases n with
        | value u => exact ⟨⟨a.defers, u, rfl⟩, h⟩
        | skip => exact ⟨⟨a.defers, undef, rfl⟩, h⟩
        | enter f args =>
          refine Calls.mono h fun e w'' he => ?_
          cases e with
          | returned u => exact ⟨⟨a.defers, u, rfl⟩, he⟩
          | panicked c => exact he
          | outgrown => exact he
        | defer d => exact ⟨⟨d :: a.defers, undef, rfl⟩, h⟩
        | row s args => exact Rows.mono h fun u w'' he => ⟨⟨a.defers, u, rfl⟩, he⟩
        | _ => exact h
      · cases x <;> exact h
    · exact Or.inr h
  · simp only [hw] at h ⊢
    exact ⟨⟨a.defers, undef, rfl⟩, h⟩

theorem YieldsE.idle {o : Oper} {v : Value} {a : Act} (hy : YieldsE P ops C o v a) : YieldsIf P ops (fun _ => False) o v a :=
  hy.imp (fun h => ⟨h.1, fun _ k => k.elim⟩) id

theorem opS_put {j : Nat} {oi oj : Oper} {v : Value} {K : Act → (World → Prop) → Prop} {a : Act} {G : World → Prop} (hj : ops[j]? = some oj) (hap : oi.apart ops oj = true)
    (hsi : ∀ cs b, oi.op ≠ .select cs b) (hsj : ∀ cs b, oj.op ≠ .select cs b) (hQ : ∀ c a w, Q (.panic c) (a.put oi.dst v) w → Q (.panic c) a w)
    (hy : YieldsE P ops C oi v a) (h : opS P ops Q C j K (a.put oi.dst v) G) : opS P ops Q C j (fun a' G' => YieldsE P ops C oi v a' ∧ K (a'.put oi.dst v) G') a G := by
  intro w hG
  have h1 := wpOp_slot hj (wpOp_putIf hj hap hsi hsj hQ hy.idle (h w hG))
  have h3 := (Oper.apart_spec hap).2.2
  refine wpOp_mono ?_ h1
  rintro a' w' ⟨⟨ds, u, rfl⟩, _, G', hk, hw, hK⟩
  refine ⟨G', hk, hw, ?_, hK⟩
  exact hy.same (execOp_put oi hsi ({ a with defers := ds } : Act) oj.dst u h3) (wanted_put oi ({ a with defers := ds } : Act) oj.dst u h3)

/-- Such an operation may be taken first. -/
theorem anyS_first {i : Nat} {oi : Oper} {v : Value} (hi : ops[i]? = some oi) (hsel : ∀ (j : Nat) (o : Oper) cs b, ops[j]? = some o → o.op ≠ .select cs b) (hQ : ∀ c a w, Q (.panic c) (a.put oi.dst v) w → Q (.panic c) a w) :
    ∀ (f : Nat) (listed : Array Bool) (a : Act) (G : World → Prop), Kept C G →
      (∀ j oj, ops[j]? = some oj → j ≠ i → listed.getD j true = false → (∀ e ∈ oj.after, Region.binds md e = true → e.on ≠ i) → oi.apart ops oj = true) →
      i ∈ Region.ready md ops listed → YieldsE P ops C oi v a → anyS P md ops Q C f (listed.setIfInBounds i true) (a.put oi.dst v) G → anyS P md ops Q C (f + 1) listed a G := by
  intro f
  induction f with
  | zero =>
    intro listed a G hG hfree hr hy H
    refine ⟨fun e => absurd (e ▸ hr) (by simp), fun j hj w hw => ?_⟩
    by_cases e : j = i
    · subst e
      exact hy.runs hi (hG.sub w hw) fun w' hx => ⟨G, hG, hG.up w w' hw hx, H⟩
    · exact absurd (H.1 ▸ ready_mono hj e) (by simp)
  | succ f ih =>
    intro listed a G hG hfree hr hy H
    refine ⟨fun e => absurd (e ▸ hr) (by simp), fun j hj => ?_⟩
    by_cases e : j = i
    · subst e
      intro w hw
      exact hy.runs hi (hG.sub w hw) fun w' hx => ⟨G, hG, hG.up w w' hw hx, H⟩
    · obtain ⟨hju, oj, hoj, hall⟩ := mem_ready.1 hj
      have hno : ∀ x ∈ oj.after, Region.binds md x = true → x.on ≠ i := by
        intro x hx hb he
        have k1 := hall x hx hb
        have k0 := (mem_ready.1 hr).1
        rw [he, getD_both k0] at k1
        cases k1
      have hfree2 : ∀ k ok, ops[k]? = some ok → k ≠ i → (listed.setIfInBounds j true).getD k true = false → (∀ x ∈ ok.after, Region.binds md x = true → x.on ≠ i) → oi.apart ops ok = true := by
        intro k ok hk hki hun hn
        refine hfree k ok hk hki ?_ hn
        by_cases hjk : j = k
        · subst hjk; exact hju
        · rwa [getD_set_ne true hjk] at hun
      have h2 := opS_put hoj (hfree j oj hoj e hju hno) (fun cs b => hsel i oi cs b hi) (fun cs b => hsel j oj cs b hoj) hQ hy (H.2 j (ready_mono hj e))
      intro w hw
      refine wpOp_mono ?_ (h2 w hw)
      rintro a' w' ⟨G', hk, hw', hy', hK⟩
      refine ⟨G', hk, hw', ih _ a' G' hk hfree2 (ready_mono hr (Ne.symm e)) hy' ?_⟩
      rw [Array.setIfInBounds_comm _ _ e]
      exact hK

/-- The operations at the end, one behind the other; ahead of each blocks may have been laid. -/
def tailS (P : Program) (ops : Array Oper) (Q : Exit → Act → World → Prop) (C : World → Prop) : List Oper → Act → World → Prop
  | [], a, w => Q .normal a w
  | o :: l, a, w => if Region.wanted o (yielded ops a.tmps) then o.wp P a w (fun a' w' => C w' ∧ ∀ w'', Ext w' w'' → tailS P ops Q C l a' w'') Q else C w ∧ ∀ w'', Ext w w'' → tailS P ops Q C l (a.put o.dst undef) w''

theorem tailS_nil {a : Act} {w : World} (h : Q .normal a w) : tailS P ops Q C [] a w := h
theorem tailS_step {o : Oper} {l : List Oper} {a : Act} {w : World}
    (h : ∀ K : Act → World → Prop, (∀ a w, C w → (∀ w'', Ext w w'' → tailS P ops Q C l a w'') → K a w) → if Region.wanted o (yielded ops a.tmps) then o.wp P a w K Q else K (a.put o.dst undef) w) : tailS P ops Q C (o :: l) a w :=
  h _ fun _ _ hc k => ⟨hc, k⟩

theorem anyS_seq (hC : ∀ w w', C w → Ext w w' → C w') : ∀ (l : List Oper) (k : Nat) (listed : Array Bool) (a : Act) (G : World → Prop), (∀ j, l[j]? = ops[k + j]?) → Region.seqB md ops l.length k listed = true →
    (∀ w, G w → tailS P ops Q C l a w) → anyS P md ops Q C l.length listed a G
  | [], _, _, _, _, _, hB, h => ⟨by simpa [Region.seqB] using hB, h⟩
  | o :: l, k, listed, a, G, hl, hB, h => by
    have h0 : ops[k]? = some o := by simpa using (hl 0).symm
    simp only [List.length_cons, Region.seqB, Bool.and_eq_true, decide_eq_true_eq] at hB
    refine ⟨fun e => absurd (hB.1 ▸ e) (by simp), fun i hi w hw => ?_⟩
    rw [hB.1] at hi
    obtain rfl : i = k := by simpa using hi
    have next : ∀ a' w', (C w' ∧ ∀ w'', Ext w' w'' → tailS P ops Q C l a' w'') → ∃ G', Kept C G' ∧ G' w' ∧ anyS P md ops Q C l.length (listed.setIfInBounds i true) a' G' := by
      rintro a' w' ⟨hc, hk⟩
      refine ⟨Ext w', ⟨fun w2 hx => hC w' w2 hc hx, fun w2 w3 hx hy => hx.trans hy⟩, Ext.refl _, anyS_seq hC l (i + 1) _ a' (Ext w') (fun j => ?_) hB.2 hk⟩
      have := hl (j + 1)
      simpa [Nat.add_assoc, Nat.add_comm 1 j] using this
    have hw0 := h w hw
    unfold wpOp
    rw [h0]
    unfold tailS at hw0
    by_cases hwa : Region.wanted o (yielded ops a.tmps) = true
    · simp only [hwa, if_true] at hw0 ⊢
      exact Or.inl (Oper.wp_mono next hw0)
    · simp only [hwa] at hw0 ⊢
      exact next _ _ hw0

/-- The walk of the operations that may be taken first, in the order of the text. -/
def headS (P : Program) (ops : Array Oper) (w : World) (N : Act → Prop) : List Oper → Act → Prop
  | [], a => N a
  | o :: rest, a =>
    if Region.wanted o (yielded ops a.tmps) then ∃ v, (∀ p : Regrown, o.quietAt P a (fun w'' => ∃ q : Regrown, w'' = grow (redrawn (grow (redrawn w p.d) p.os) q.d) q.os) (grow (redrawn w p.d) p.os) v) ∧ headS P ops w N rest (a.put o.dst v)
    else headS P ops w N rest (a.put o.dst undef)

theorem headS_nil {w : World} {N : Act → Prop} {a : Act} (h : N a) : headS P ops w N [] a := h
theorem headS_step {w : World} {N : Act → Prop} {o : Oper} {rest : List Oper} {a : Act}
    (h : ∀ K : Act → Prop, (∀ a, headS P ops w N rest a → K a) → if Region.wanted o (yielded ops a.tmps) then ∃ v, (∀ p : Regrown, o.quietAt P a (fun w'' => ∃ q : Regrown, w'' = grow (redrawn (grow (redrawn w p.d) p.os) q.d) q.os) (grow (redrawn w p.d) p.os) v) ∧ K (a.put o.dst v) else K (a.put o.dst undef)) : headS P ops w N (o :: rest) a :=
  h _ fun _ k => k

/-- A callee's contract that ends in 'Below', at such a step. -/
theorem calls_head {f : FuncId} {args : Array Value} {w : World} {v : Value} (h : Calls P f args w fun e w' => e = .returned v ∧ Below w.heap.size w w') : Calls P f args w fun e w'' => e = .returned v ∧ ∃ q : Regrown, w'' = grow (redrawn w q.d) q.os :=
  h.mono fun _ _ ⟨he, hb⟩ => ⟨he, regrown_of_below hb⟩

theorem quiet_up {o : Oper} {a : Act} {w : World} {v : Value} {D D' : World → Prop} (hD : ∀ w, D w → D' w) (h : o.quietAt P a D w v) : o.quietAt P a D' w v := by
  unfold Oper.quietAt at *
  generalize (execOp a.eval o).run P w = r at h ⊢
  rcases r with ⟨n, w'⟩ | ⟨x, w'⟩
  · cases n with
    | enter f args => exact ⟨h.1, h.2.mono fun e w'' k => ⟨k.1, hD _ k.2⟩⟩
    | _ => exact h
  · exact h

theorem anyS_lex {w : World} {N : Act → Prop} (hsel : Region.noSelect ops = true) (hQ : ∀ c a d v w, Q (.panic c) (a.put d v) w → Q (.panic c) a w) {g n : Nat} (hN : ∀ (listed : Array Bool) a, Region.seqB md ops g n listed = true → N a → anyS P md ops Q (Ext w) g listed a (Ext w)) :
    ∀ (l : List Oper) (k : Nat) (listed : Array Bool) (a : Act), (∀ j, j < l.length → l[j]? = ops[k + j]?) → k + l.length = n → Region.lexHead md ops g l.length k listed = true →
    headS P ops w N l a → anyS P md ops Q (Ext w) (l.length + g) listed a (Ext w)
  | [], k, listed, a, _, hk, hB, h => by
    obtain rfl : k = n := by simpa using hk
    rw [List.length_nil, Nat.zero_add]
    exact hN listed a (by simpa [Region.lexHead] using hB) h
  | o :: l, k, listed, a, hl, hk, hB, h => by
    have h0 : ops[k]? = some o := by simpa using (hl 0 (by simp)).symm
    simp only [List.length_cons, Region.lexHead, Bool.and_eq_true] at hB
    obtain ⟨⟨hr, hf⟩, hB'⟩ := hB
    have hr' : k ∈ Region.ready md ops listed := by simpa using hr
    have hl' : ∀ j, j < l.length → l[j]? = ops[k + 1 + j]? := fun j hj => by
      have := hl (j + 1) (by simp; omega)
      simpa [Nat.add_assoc, Nat.add_comm 1 j] using this
    have hk' : k + 1 + l.length = n := by simp only [List.length_cons] at hk; omega
    have hkept : Kept (Ext w) (Ext w) := ⟨fun _ k => k, fun _ _ h k => h.trans k⟩
    rw [List.length_cons, show l.length + 1 + g = (l.length + g) + 1 by omega]
    unfold headS at h
    by_cases hwa : Region.wanted o (yielded ops a.tmps) = true
    · simp only [hwa, if_true] at h
      obtain ⟨v, hv, hrest⟩ := h
      have hy : YieldsE P ops (Ext w) o v a := Or.inl ⟨hwa, fun w' hw' => by
        obtain ⟨p, rfl⟩ := regrown_of_below hw'
        exact quiet_up (fun w2 ⟨q, hq⟩ => by rw [hq]; exact below_regrown _ _ _) (hv p)⟩
      exact anyS_first h0 (Region.noSelect_spec hsel) (fun c a w => hQ c a _ _ w) _ listed a (Ext w) hkept (Region.free_spec h0 hf) hr' hy (anyS_lex hsel hQ hN l (k + 1) _ _ hl' hk' hB' hrest)
    · simp only [hwa] at h
      have hy : YieldsE P ops (Ext w) o undef a := Or.inr ⟨by simpa using hwa, rfl⟩
      exact anyS_first h0 (Region.noSelect_spec hsel) (fun c a w => hQ c a _ _ w) _ listed a (Ext w) hkept (Region.free_spec h0 hf) hr' hy (anyS_lex hsel hQ hN l (k + 1) _ _ hl' hk' hB' h)

/-- The region: its first n operations are taken first. -/
theorem region_heads {id : Nat} {a : Act} {w : World} {l : List Oper} (n : Nat) (hm : P.follows .mixedOrders = true) (hn : n ≤ l.length) (hB : (Region.noSelect l.toArray && Region.lexHead .any l.toArray (l.length - n) n 0 (Array.replicate l.toArray.size false)) = true)
    (hQ : ∀ c a d v w, Q (.panic c) (a.put d v) w → Q (.panic c) a w)
    (h : headS P l.toArray w (fun a' => ∀ w', Ext w w' → tailS P l.toArray Q (Ext w) (l.drop n) a' w') (l.take n) a) : (Code.region id l.toArray true).wp P Q a w := by
  rw [Bool.and_eq_true] at hB
  obtain ⟨hsel, hlex⟩ := hB
  have htl : (l.take n).length = n := by simp; omega
  have hdl : (l.drop n).length = l.length - n := by simp
  refine wp_region_any hm ?_
  have H := anyS_lex (md := .any) (P := P) (Q := Q) (w := w) (N := fun a' => ∀ w', Ext w w' → tailS P l.toArray Q (Ext w) (l.drop n) a' w') hsel hQ (g := l.length - n) (n := n) (fun listed a' hs hN => by
    have := anyS_seq (md := .any) (P := P) (Q := Q) (C := Ext w) (fun _ _ h k => h.trans k) (l.drop n) n listed a' (Ext w) (fun j => by simp [List.getElem?_drop]) (by rw [hdl]; exact hs) hN
    rwa [hdl] at this) (l.take n) 0 _ a (fun j hj => by
      have hj' : j < n := by rw [htl] at hj; exact hj
      simp [hj']) (by simpa using htl) (by rw [htl]; exact hlex) h
  rw [htl, show n + (l.length - n) = l.toArray.size by simp; omega] at H
  exact any_of_S _ _ _ _ _ (show Ext w { w with drawn := w.drawn + 1 } from ⟨rfl, rfl, rfl, Nat.le_refl _, fun _ _ => rfl⟩) H

/-! The same where what stands at the end waits for all that is ahead of it: the end may then write where it likes. -/

def anyT (P : Program) (md : Region.Mode) (ops : Array Oper) (Q : Exit → Act → World → Prop) (C : World → Prop) (n : Nat) (L : Array Bool → Act → (World → Prop) → Prop) : Nat → Array Bool → Act → (World → Prop) → Prop
  | 0, listed, a, G => L listed a G
  | f + 1, listed, a, G => Region.ready md ops listed ≠ [] ∧ ∀ i ∈ Region.ready md ops listed, i < n ∧ opS P ops Q C i (anyT P md ops Q C n L f (listed.setIfInBounds i true)) a G

theorem any_of_T {n g : Nat} {L : Array Bool → Act → (World → Prop) → Prop} (hL : ∀ listed a G w, L listed a G → G w → wpAny P md ops Q g listed a w) :
    ∀ (f : Nat) (listed : Array Bool) (a : Act) (G : World → Prop) (w : World), G w → anyT P md ops Q C n L f listed a G → wpAny P md ops Q (f + g) listed a w
  | 0, listed, a, G, w, hG, h => by rw [Nat.zero_add]; exact hL _ _ _ _ h hG
  | f + 1, listed, a, G, w, hG, h => by
    rw [show f + 1 + g = (f + g) + 1 by omega]
    exact ⟨fun e => absurd e h.1, fun i hi => wpOp_mono (fun a' w' ⟨G', _, hw, hr⟩ => any_of_T hL f _ a' G' w' hw hr) ((h.2 i hi).2 w hG)⟩

theorem anyT_first {n i : Nat} {oi : Oper} {v : Value} {L : Array Bool → Act → (World → Prop) → Prop} (hi : ops[i]? = some oi) (hsel : ∀ (j : Nat) (o : Oper) cs b, ops[j]? = some o → o.op ≠ .select cs b) (hQ : ∀ c a w, Q (.panic c) (a.put oi.dst v) w → Q (.panic c) a w)
    (hs : Region.sinkB md ops n = true) (hc : Region.chainB md ops n = true) (hn : n < ops.size) (hin : i < n) (hdone : ∀ listed a G, L listed a G → ∀ j ∈ Region.ready md ops listed, n ≤ j) :
    ∀ (f : Nat) (listed : Array Bool) (a : Act) (G : World → Prop), Kept C G → HeadInv md ops n listed →
      (∀ j oj, ops[j]? = some oj → j ≠ i → listed.getD j true = false → (∀ e ∈ oj.after, Region.binds md e = true → e.on ≠ i) → oi.apart ops oj = true) →
      i ∈ Region.ready md ops listed → YieldsE P ops C oi v a → anyT P md ops Q C n L f (listed.setIfInBounds i true) (a.put oi.dst v) G → anyT P md ops Q C n L (f + 1) listed a G := by
  intro f
  induction f with
  | zero =>
    intro listed a G hG inv hfree hr hy H
    have early : ∀ j ∈ Region.ready md ops listed, j < n := fun j hj => Nat.lt_of_not_le fun h => tail_waits hs hc hn inv _ i rfl hin (mem_ready.1 hr).1 j h hj
    refine ⟨fun e => absurd (e ▸ hr) (by simp), fun j hj => ⟨early j hj, fun w hw => ?_⟩⟩
    by_cases e : j = i
    · subst e
      exact hy.runs hi (hG.sub w hw) fun w' hx => ⟨G, hG, hG.up w w' hw hx, H⟩
    · exact absurd (hdone _ _ _ H j (ready_mono hj e)) (by have := early j hj; omega)
  | succ f ih =>
    intro listed a G hG inv hfree hr hy H
    have early : ∀ j ∈ Region.ready md ops listed, j < n := fun j hj => Nat.lt_of_not_le fun h => tail_waits hs hc hn inv _ i rfl hin (mem_ready.1 hr).1 j h hj
    refine ⟨fun e => absurd (e ▸ hr) (by simp), fun j hj => ⟨early j hj, ?_⟩⟩
    by_cases e : j = i
    · subst e
      intro w hw
      exact hy.runs hi (hG.sub w hw) fun w' hx => ⟨G, hG, hG.up w w' hw hx, H⟩
    · obtain ⟨hju, oj, hoj, hall⟩ := mem_ready.1 hj
      have hno : ∀ x ∈ oj.after, Region.binds md x = true → x.on ≠ i := by
        intro x hx hb he
        have k1 := hall x hx hb
        rw [he, getD_both (mem_ready.1 hr).1] at k1
        cases k1
      have hfree2 : ∀ k ok, ops[k]? = some ok → k ≠ i → (listed.setIfInBounds j true).getD k true = false → (∀ x ∈ ok.after, Region.binds md x = true → x.on ≠ i) → oi.apart ops ok = true := by
        intro k ok hk hki hun hn
        refine hfree k ok hk hki ?_ hn
        by_cases hjk : j = k
        · subst hjk; exact hju
        · rwa [getD_set_ne true hjk] at hun
      have h2 := opS_put hoj (hfree j oj hoj e hju hno) (fun cs b => hsel i oi cs b hi) (fun cs b => hsel j oj cs b hoj) hQ hy (H.2 j (ready_mono hj e)).2
      intro w hw
      refine wpOp_mono ?_ (h2 w hw)
      rintro a' w' ⟨G', hk, hw', hy', hK⟩
      refine ⟨G', hk, hw', ih _ a' G' hk (inv.set hj (early j hj)) hfree2 (ready_mono hr (Ne.symm e)) hy' ?_⟩
      rw [Array.setIfInBounds_comm _ _ e]
      exact hK

theorem anyT_lex {w : World} {N : Act → Prop} (hsel : Region.noSelect ops = true) (hQ : ∀ c a d v w, Q (.panic c) (a.put d v) w → Q (.panic c) a w) {g n : Nat} (hs : Region.sinkB md ops n = true) (hc : Region.chainB md ops n = true) (hn : n < ops.size) :
    ∀ (l : List Oper) (k : Nat) (listed : Array Bool) (a : Act), (∀ j, j < l.length → l[j]? = ops[k + j]?) → k + l.length = n → HeadInv md ops n listed → Region.lexHead md ops g l.length k listed = true →
    headS P ops w N l a → anyT P md ops Q (Ext w) n (fun listed' a' G => Region.seqB md ops g n listed' = true ∧ N a' ∧ ∀ w', G w' → Ext w w') l.length listed a (Ext w)
  | [], k, listed, a, _, hk, _, hB, h => by
    obtain rfl : k = n := by simpa using hk
    exact ⟨by simpa [Region.lexHead] using hB, h, fun _ k => k⟩
  | o :: l, k, listed, a, hl, hk, inv, hB, h => by
    have h0 : ops[k]? = some o := by simpa using (hl 0 (by simp)).symm
    simp only [List.length_cons, Region.lexHead, Bool.and_eq_true] at hB
    obtain ⟨⟨hr, hf⟩, hB'⟩ := hB
    have hr' : k ∈ Region.ready md ops listed := by simpa using hr
    have hkn : k < n := by simp only [List.length_cons] at hk; omega
    have hl' : ∀ j, j < l.length → l[j]? = ops[k + 1 + j]? := fun j hj => by
      have := hl (j + 1) (by simp; omega)
      simpa [Nat.add_assoc, Nat.add_comm 1 j] using this
    have hk' : k + 1 + l.length = n := by simp only [List.length_cons] at hk; omega
    have hkept : Kept (Ext w) (Ext w) := ⟨fun _ k => k, fun _ _ h k => h.trans k⟩
    have done : ∀ (listed' : Array Bool) (a' : Act) (G : World → Prop), (Region.seqB md ops g n listed' = true ∧ N a' ∧ ∀ w', G w' → Ext w w') → ∀ j ∈ Region.ready md ops listed', n ≤ j := fun listed' a' G hL => seqB_ready hL.1
    unfold headS at h
    by_cases hwa : Region.wanted o (yielded ops a.tmps) = true
    · simp only [hwa, if_true] at h
      obtain ⟨v, hv, hrest⟩ := h
      have hy : YieldsE P ops (Ext w) o v a := Or.inl ⟨hwa, fun w' hw' => by
        obtain ⟨p, rfl⟩ := regrown_of_below hw'
        exact quiet_up (fun w2 ⟨q, hq⟩ => by rw [hq]; exact below_regrown _ _ _) (hv p)⟩
      exact anyT_first h0 (Region.noSelect_spec hsel) (fun c a w => hQ c a _ _ w) hs hc hn hkn done _ listed a (Ext w) hkept inv (Region.free_spec h0 hf) hr' hy (anyT_lex hsel hQ hs hc hn l (k + 1) _ _ hl' hk' (inv.set hr' hkn) hB' hrest)
    · simp only [hwa] at h
      have hy : YieldsE P ops (Ext w) o undef a := Or.inr ⟨by simpa using hwa, rfl⟩
      exact anyT_first h0 (Region.noSelect_spec hsel) (fun c a w => hQ c a _ _ w) hs hc hn hkn done _ listed a (Ext w) hkept inv (Region.free_spec h0 hf) hr' hy (anyT_lex hsel hQ hs hc hn l (k + 1) _ _ hl' hk' (inv.set hr' hkn) hB' h)

/-- The region whose end waits: behind its first n operations the rest as a plain list. -/
theorem region_heads_tail {id : Nat} {a : Act} {w : World} {l : List Oper} (n : Nat) (hm : P.follows .mixedOrders = true) (hB : Region.lexTailB .any l.toArray n = true) (hQ : ∀ c a d v w, Q (.panic c) (a.put d v) w → Q (.panic c) a w)
    (h : headS P l.toArray w (fun a' => ∀ w', Ext w w' → wpList P l.toArray Q (l.drop n) a' w') (l.take n) a) : (Code.region id l.toArray true).wp P Q a w := by
  simp only [Region.lexTailB, Bool.and_eq_true, decide_eq_true_eq] at hB
  obtain ⟨⟨⟨⟨hsel, hn⟩, hs⟩, hc⟩, hlex⟩ := hB
  have hn' : n < l.length := by simpa using hn
  have htl : (l.take n).length = n := by simp; omega
  have hdl : (l.drop n).length = l.toArray.size - n := by simp
  have inv0 : HeadInv .any l.toArray n (Array.replicate l.toArray.size false) :=
    ⟨by simp, fun j oj _ hl => (by rw [getD_replicate_false] at hl; cases hl), fun t _ ht => getD_in (by simpa using ht) (getD_replicate_false _ _)⟩
  have H := anyT_lex (md := .any) (P := P) (Q := Q) (w := w) (N := fun a' => ∀ w', Ext w w' → wpList P l.toArray Q (l.drop n) a' w') hsel hQ (g := l.toArray.size - n) (n := n) hs hc hn (l.take n) 0 _ a (fun j hj => by
      have hj' : j < n := by rw [htl] at hj; exact hj
      simp [hj']) (by simpa using htl) inv0 (by rw [htl]; exact hlex) h
  refine wp_region_any hm ?_
  have R := any_of_T (P := P) (md := .any) (Q := Q) (g := l.toArray.size - n) (fun listed a' G w' hL hG => by
    have := wpAny_of_seq (md := .any) (Q' := Q) (l.drop n) n listed a' w' (fun j => by simp [List.getElem?_drop]) (by rw [hdl]; exact hL.1) (hL.2.1 w' (hL.2.2 w' hG))
    rwa [hdl] at this) _ _ _ _ _ (show Ext w { w with drawn := w.drawn + 1 } from ⟨rfl, rfl, rfl, Nat.le_refl _, fun _ _ => rfl⟩) H
  rw [htl, show n + (l.toArray.size - n) = l.toArray.size by omega] at R
  exact R

end

end Go.Proofs.Ytjpdllhhganbpaa
