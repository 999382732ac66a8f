/- A region that draws its order: operations that read and calls that lay blocks may be taken first, in the order of the text, though an allocation or a store of the region floats among them. Nothing of the program. A region that draws its order, step by step: what only reads or lays blocks is taken first, of what else may come up each is gone through. Nothing of the program. Plain notions for this seat's walks: a slice of ints as (length, function of the place), and a world in which nothing but the count of draws has turned. Nothing of the program. A region that draws its order, step by step, in which calls turn one block C (a cursor): what only reads other memory or lays blocks is taken first, of what else may come up each is gone through. Nothing of the program. Blocks of cells: what lies there, what a store leaves. Nothing of the program. Walks of the law's own helpers over slices of ints: toIntS makes a copy in new memory; eqIntS tells whether two slices read alike. Plain notions for walks over slices of bytes, made of those over ints. Nothing of the program. Walks of the law's own helpers over slices of bytes: toByteS makes a copy in new memory; eqByteS tells whether two slices read alike. Walks: bytes.Equal, and the model's l1Same: whether two lists of bytes are alike. Walks: lists of bytes put behind each other: slices.Clone, slices.Grow, slices.Concat, appendWord. Plain notions for walks over strings: the byte at a place, what a round of a range over a string comes to, lists of strings of the call's own. Lists of strings in memory; the laws' own helpers over them; a list of strings that came in, opened. Structs by the lists of their cells: loads and stores of whole ones; what stays as it was while a struct is made. Extensions: lists of lists of numbers and extensions in memory; the laws' own helpers over them; extensions that came in, opened (written by mkexs.py). -/
import Derived.Lib.QuietBelow
import Derived.OrdersHeld
import Derived.StillTail
import Derived.WalkKit
import Derived.Deep.OwnRows
import Derived.WalkSmall
import Derived.Deep.QuietTactic
import Derived.BigQuiet
import Derived.Test.YtigjjkondbdgjaaGreatDoorChecked
import Derived.Laws.BytesArg
import Derived.Lib.AppendZerosOnto
import Derived.Laws.OwnMore
import Derived.Lib.OthersKept
import Derived.Laws.DeepStrings4
import Derived.Laws.IdiomStrings
import Derived.Maps.AppendAt
import Derived.Test.YtigjjkondbdgjaaGreatDoorRows
import Derived.SliceStrings
import Derived.ProofKit
import Derived.OpenShut
import Derived.ChangeOld
import Derived.Below
namespace Go.Proofs.YtigjjkondbdgjaaGreatDoor

section
set_option linter.unusedVariables false
open Go Go.Sort Go.RowKit

/-- w' is w with blocks laid behind it. -/
def Ext (w w' : World) : Prop := Below w.heap.size w w'

theorem Ext.refl (w : World) : Ext w w := Below.refl _ _
theorem Ext.trans {a b c : World} (h : Ext a b) (k : Ext b c) : Ext a c := Below.trans h (Below.mono k (Below.size h))

/-- What is known of the world, and stays true when blocks are laid. -/
structure Kept (C G : World → Prop) : Prop where
  sub : ∀ w, G w → C w
  up : ∀ w w', G w → Ext w w' → G w'

section
variable {P : Program} {ops : Array Oper} {md : Region.Mode} {Q : Exit → Act → World → Prop} {C : World → Prop}

def opS (P : Program) (ops : Array Oper) (Q : Exit → Act → World → Prop) (C : World → Prop) (i : Nat) (K : Act → (World → Prop) → Prop) (a : Act) (G : World → Prop) : Prop :=
  ∀ w, G w → wpOp P ops Q i (fun a' w' => ∃ G', Kept C G' ∧ G' w' ∧ K a' G') a w

/-- Whatever order is picked from here on, of the world G being known. -/
def anyS (P : Program) (md : Region.Mode) (ops : Array Oper) (Q : Exit → Act → World → Prop) (C : World → Prop) : Nat → Array Bool → Act → (World → Prop) → Prop
  | 0, listed, a, G => Region.ready md ops listed = [] ∧ ∀ w, G w → Q .normal a w
  | f + 1, listed, a, G => (Region.ready md ops listed = [] → ∀ w, G w → Q .normal a w) ∧ ∀ i ∈ Region.ready md ops listed, opS P ops Q C i (anyS P md ops Q C f (listed.setIfInBounds i true)) a G

theorem any_of_S : ∀ (f : Nat) (listed : Array Bool) (a : Act) (G : World → Prop) (w : World), G w → anyS P md ops Q C f listed a G → wpAny P md ops Q f listed a w
  | 0, _, _, _, w, hG, h => ⟨h.1, h.2 w hG⟩
  | f + 1, _, _, _, w, hG, h => ⟨fun e => h.1 e w hG, fun i hi => wpOp_mono (fun a' w' ⟨G', _, hw, hr⟩ => any_of_S f _ a' G' w' hw hr) (h.2 i hi w hG)⟩

/-- An operation that yields v and lays blocks at most, wherever C holds. -/
def YieldsE (P : Program) (ops : Array Oper) (C : World → Prop) (o : Oper) (v : Value) (a : Act) : Prop :=
  (Region.wanted o (yielded ops a.tmps) = true ∧ ∀ w, C w → o.quietAt P a (Ext w) w v) ∨ (Region.wanted o (yielded ops a.tmps) = false ∧ v = undef)

theorem YieldsE.same {o : Oper} {v : Value} {a a' : Act} (hy : YieldsE P ops C o v a) (he : execOp a'.eval o = execOp a.eval o) (hw : Region.wanted o (yielded ops a'.tmps) = Region.wanted o (yielded ops a.tmps)) : YieldsE P ops C o v a' := by
  unfold YieldsE Oper.quietAt at *
  rw [he, hw]
  exact hy

theorem quiet_runs {o : Oper} {a : Act} {w : World} {v : Value} {K : Act → World → Prop} (h : o.quietAt P a (Ext w) w v) (hk : ∀ w', Ext w w' → K (a.put o.dst v) w') : o.wp P a w K Q := by
  unfold Oper.quietAt at h
  unfold Oper.wp
  generalize (execOp a.eval o).run P w = r at h ⊢
  rcases r with ⟨n, w'⟩ | ⟨x, w'⟩
  · cases n with
    | value u => obtain ⟨rfl, rfl⟩ := h; exact hk _ (Ext.refl _)
    | skip => obtain ⟨rfl, rfl⟩ := h; exact hk _ (Ext.refl _)
    | enter f args => obtain ⟨rfl, hc⟩ := h; exact hc.mono fun e w'' ⟨he, hw⟩ => by subst he; exact hk _ hw
    | defer d => exact h.elim
    | row s args => exact h.elim
    | _ => exact h.elim
  · exact h.elim

theorem YieldsE.runs {i : Nat} {o : Oper} {v : Value} {a : Act} (hi : ops[i]? = some o) (hy : YieldsE P ops C o v a) {K : Act → World → Prop} {w : World} (hC : C w) (hk : ∀ w', Ext w w' → K (a.put o.dst v) w') : wpOp P ops Q i K a w := by
  unfold wpOp
  rw [hi]
  rcases hy with ⟨hw, hv⟩ | ⟨hw, rfl⟩
  · simp only [hw, if_true]
    exact Or.inl (quiet_runs (hv w hC) hk)
  · simp only [hw, Bool.false_eq_true, if_false]
    exact hk _ (Ext.refl _)

/-- What an operation leaves of the frame: its own slot turned, more deferred calls perhaps. -/
theorem wpOp_slot {j : Nat} {oj : Oper} {K : Act → World → Prop} {a : Act} {w : World} (hj : ops[j]? = some oj) (h : wpOp P ops Q j K a w) :
    wpOp P ops Q j (fun a' w' => (∃ ds u, a' = ({ a with defers := ds } : Act).put oj.dst u) ∧ K a' w') a w := by
  unfold wpOp at h ⊢
  rw [hj] at h ⊢
  by_cases hw : Region.wanted oj (yielded ops a.tmps) = true
  · simp only [hw, if_true] at h ⊢
    rcases h with h | h
    · left
      unfold Oper.wp at h ⊢
      generalize (execOp a.eval oj).run P w = r at h ⊢
      rcases r with ⟨n, w'⟩ | ⟨x, w'⟩
      · cases n with
        | value u => exact ⟨⟨a.defers, u, rfl⟩, h⟩
        | skip => exact ⟨⟨a.defers, undef, rfl⟩, h⟩
        | enter f args =>
          refine Calls.mono h fun e w'' he => ?_
          cases e with
          | returned u => exact ⟨⟨a.defers, u, rfl⟩, he⟩
          | panicked c => exact he
          | outgrown => exact he
        | defer d => exact ⟨⟨d :: a.defers, undef, rfl⟩, h⟩
        | row s args => exact Rows.mono h fun u w'' he => ⟨⟨a.defers, u, rfl⟩, he⟩
        | _ => exact h
      · cases x <;> exact h
    · exact Or.inr h
  · simp only [hw] at h ⊢
    exact ⟨⟨a.defers, undef, rfl⟩, h⟩

theorem YieldsE.idle {o : Oper} {v : Value} {a : Act} (hy : YieldsE P ops C o v a) : YieldsIf P ops (fun _ => False) o v a :=
  hy.imp (fun h => ⟨h.1, fun _ k => k.elim⟩) id

theorem opS_put {j : Nat} {oi oj : Oper} {v : Value} {K : Act → (World → Prop) → Prop} {a : Act} {G : World → Prop} (hj : ops[j]? = some oj) (hap : oi.apart ops oj = true)
    (hsi : ∀ cs b, oi.op ≠ .select cs b) (hsj : ∀ cs b, oj.op ≠ .select cs b) (hQ : ∀ c a w, Q (.panic c) (a.put oi.dst v) w → Q (.panic c) a w)
    (hy : YieldsE P ops C oi v a) (h : opS P ops Q C j K (a.put oi.dst v) G) : opS P ops Q C j (fun a' G' => YieldsE P ops C oi v a' ∧ K (a'.put oi.dst v) G') a G := by
  intro w hG
  have h1 := wpOp_slot hj (wpOp_putIf hj hap hsi hsj hQ hy.idle (h w hG))
  have h3 := (Oper.apart_spec hap).2.2
  refine wpOp_mono ?_ h1
  rintro a' w' ⟨⟨ds, u, rfl⟩, _, G', hk, hw, hK⟩
  refine ⟨G', hk, hw, ?_, hK⟩
  exact hy.same (execOp_put oi hsi ({ a with defers := ds } : Act) oj.dst u h3) (wanted_put oi ({ a with defers := ds } : Act) oj.dst u h3)

/-- Such an operation may be taken first. -/
theorem anyS_first {i : Nat} {oi : Oper} {v : Value} (hi : ops[i]? = some oi) (hsel : ∀ (j : Nat) (o : Oper) cs b, ops[j]? = some o → o.op ≠ .select cs b) (hQ : ∀ c a w, Q (.panic c) (a.put oi.dst v) w → Q (.panic c) a w) :
    ∀ (f : Nat) (listed : Array Bool) (a : Act) (G : World → Prop), Kept C G →
      (∀ j oj, ops[j]? = some oj → j ≠ i → listed.getD j true = false → (∀ e ∈ oj.after, Region.binds md e = true → e.on ≠ i) → oi.apart ops oj = true) →
      i ∈ Region.ready md ops listed → YieldsE P ops C oi v a → anyS P md ops Q C f (listed.setIfInBounds i true) (a.put oi.dst v) G → anyS P md ops Q C (f + 1) listed a G := by
  intro f
  induction f with
  | zero =>
    intro listed a G hG hfree hr hy H
    refine ⟨fun e => absurd (e ▸ hr) (by simp), fun j hj w hw => ?_⟩
    by_cases e : j = i
    · subst e
      exact hy.runs hi (hG.sub w hw) fun w' hx => ⟨G, hG, hG.up w w' hw hx, H⟩
    · exact absurd (H.1 ▸ ready_mono hj e) (by simp)
  | succ f ih =>
    intro listed a G hG hfree hr hy H
    refine ⟨fun e => absurd (e ▸ hr) (by simp), fun j hj => ?_⟩
    by_cases e : j = i
    · subst e
      intro w hw
      exact hy.runs hi (hG.sub w hw) fun w' hx => ⟨G, hG, hG.up w w' hw hx, H⟩
    · obtain ⟨hju, oj, hoj, hall⟩ := mem_ready.1 hj
      have hno : ∀ x ∈ oj.after, Region.binds md x = true → x.on ≠ i := by
        intro x hx hb he
        have k1 := hall x hx hb
        have k0 := (mem_ready.1 hr).1
        rw [he, getD_both k0] at k1
        cases k1
      have hfree2 : ∀ k ok, ops[k]? = some ok → k ≠ i → (listed.setIfInBounds j true).getD k true = false → (∀ x ∈ ok.after, Region.binds md x = true → x.on ≠ i) → oi.apart ops ok = true := by
        intro k ok hk hki hun hn
        refine hfree k ok hk hki ?_ hn
        by_cases hjk : j = k
        · subst hjk; exact hju
        · rwa [getD_set_ne true hjk] at hun
      have h2 := opS_put hoj (hfree j oj hoj e hju hno) (fun cs b => hsel i oi cs b hi) (fun cs b => hsel j oj cs b hoj) hQ hy (H.2 j (ready_mono hj e))
      intro w hw
      refine wpOp_mono ?_ (h2 w hw)
      rintro a' w' ⟨G', hk, hw', hy', hK⟩
      refine ⟨G', hk, hw', ih _ a' G' hk hfree2 (ready_mono hr (Ne.symm e)) hy' ?_⟩
      rw [Array.setIfInBounds_comm _ _ e]
      exact hK

/-- The operations at the end, one behind the other; ahead of each blocks may have been laid. -/
def tailS (P : Program) (ops : Array Oper) (Q : Exit → Act → World → Prop) (C : World → Prop) : List Oper → Act → World → Prop
  | [], a, w => Q .normal a w
  | o :: l, a, w => if Region.wanted o (yielded ops a.tmps) then o.wp P a w (fun a' w' => C w' ∧ ∀ w'', Ext w' w'' → tailS P ops Q C l a' w'') Q else C w ∧ ∀ w'', Ext w w'' → tailS P ops Q C l (a.put o.dst undef) w''

theorem tailS_nil {a : Act} {w : World} (h : Q .normal a w) : tailS P ops Q C [] a w := h
theorem tailS_step {o : Oper} {l : List Oper} {a : Act} {w : World}
    (h : ∀ K : Act → World → Prop, (∀ a w, C w → (∀ w'', Ext w w'' → tailS P ops Q C l a w'') → K a w) → if Region.wanted o (yielded ops a.tmps) then o.wp P a w K Q else K (a.put o.dst undef) w) : tailS P ops Q C (o :: l) a w :=
  h _ fun _ _ hc k => ⟨hc, k⟩

theorem anyS_seq (hC : ∀ w w', C w → Ext w w' → C w') : ∀ (l : List Oper) (k : Nat) (listed : Array Bool) (a : Act) (G : World → Prop), (∀ j, l[j]? = ops[k + j]?) → Region.seqB md ops l.length k listed = true →
    (∀ w, G w → tailS P ops Q C l a w) → anyS P md ops Q C l.length listed a G
  | [], _, _, _, _, _, hB, h => ⟨by simpa [Region.seqB] using hB, h⟩
  | o :: l, k, listed, a, G, hl, hB, h => by
    have h0 : ops[k]? = some o := by simpa using (hl 0).symm
    simp only [List.length_cons, Region.seqB, Bool.and_eq_true, decide_eq_true_eq] at hB
    refine ⟨fun e => absurd (hB.1 ▸ e) (by simp), fun i hi w hw => ?_⟩
    rw [hB.1] at hi
    obtain rfl : i = k := by simpa using hi
    have next : ∀ a' w', (C w' ∧ ∀ w'', Ext w' w'' → tailS P ops Q C l a' w'') → ∃ G', Kept C G' ∧ G' w' ∧ anyS P md ops Q C l.length (listed.setIfInBounds i true) a' G' := by
      rintro a' w' ⟨hc, hk⟩
      refine ⟨Ext w', ⟨fun w2 hx => hC w' w2 hc hx, fun w2 w3 hx hy => hx.trans hy⟩, Ext.refl _, anyS_seq hC l (i + 1) _ a' (Ext w') (fun j => ?_) hB.2 hk⟩
      have := hl (j + 1)
      simpa [Nat.add_assoc, Nat.add_comm 1 j] using this
    have hw0 := h w hw
    unfold wpOp
    rw [h0]
    unfold tailS at hw0
    by_cases hwa : Region.wanted o (yielded ops a.tmps) = true
    · simp only [hwa, if_true] at hw0 ⊢
      exact Or.inl (Oper.wp_mono next hw0)
    · simp only [hwa] at hw0 ⊢
      exact next _ _ hw0

/-- The walk of the operations that may be taken first, in the order of the text. -/
def headS (P : Program) (ops : Array Oper) (w : World) (N : Act → Prop) : List Oper → Act → Prop
  | [], a => N a
  | o :: rest, a =>
    if Region.wanted o (yielded ops a.tmps) then ∃ v, (∀ p : Regrown, o.quietAt P a (fun w'' => ∃ q : Regrown, w'' = grow (redrawn (grow (redrawn w p.d) p.os) q.d) q.os) (grow (redrawn w p.d) p.os) v) ∧ headS P ops w N rest (a.put o.dst v)
    else headS P ops w N rest (a.put o.dst undef)

theorem headS_nil {w : World} {N : Act → Prop} {a : Act} (h : N a) : headS P ops w N [] a := h
theorem headS_step {w : World} {N : Act → Prop} {o : Oper} {rest : List Oper} {a : Act}
    (h : ∀ K : Act → Prop, (∀ a, headS P ops w N rest a → K a) → if Region.wanted o (yielded ops a.tmps) then ∃ v, (∀ p : Regrown, o.quietAt P a (fun w'' => ∃ q : Regrown, w'' = grow (redrawn (grow (redrawn w p.d) p.os) q.d) q.os) (grow (redrawn w p.d) p.os) v) ∧ K (a.put o.dst v) else K (a.put o.dst undef)) : headS P ops w N (o :: rest) a :=
  h _ fun _ k => k

/-- A callee's contract that ends in 'Below', at such a step. -/
theorem calls_head {f : FuncId} {args : Array Value} {w : World} {v : Value} (h : Calls P f args w fun e w' => e = .returned v ∧ Below w.heap.size w w') : Calls P f args w fun e w'' => e = .returned v ∧ ∃ q : Regrown, w'' = grow (redrawn w q.d) q.os :=
  h.mono fun _ _ ⟨he, hb⟩ => ⟨he, regrown_of_below hb⟩

theorem quiet_up {o : Oper} {a : Act} {w : World} {v : Value} {D D' : World → Prop} (hD : ∀ w, D w → D' w) (h : o.quietAt P a D w v) : o.quietAt P a D' w v := by
  unfold Oper.quietAt at *
  generalize (execOp a.eval o).run P w = r at h ⊢
  rcases r with ⟨n, w'⟩ | ⟨x, w'⟩
  · cases n with
    | enter f args => exact ⟨h.1, h.2.mono fun e w'' k => ⟨k.1, hD _ k.2⟩⟩
    | _ => exact h
  · exact h

theorem anyS_lex {w : World} {N : Act → Prop} (hsel : Region.noSelect ops = true) (hQ : ∀ c a d v w, Q (.panic c) (a.put d v) w → Q (.panic c) a w) {g n : Nat} (hN : ∀ (listed : Array Bool) a, Region.seqB md ops g n listed = true → N a → anyS P md ops Q (Ext w) g listed a (Ext w)) :
    ∀ (l : List Oper) (k : Nat) (listed : Array Bool) (a : Act), (∀ j, j < l.length → l[j]? = ops[k + j]?) → k + l.length = n → Region.lexHead md ops g l.length k listed = true →
    headS P ops w N l a → anyS P md ops Q (Ext w) (l.length + g) listed a (Ext w)
  | [], k, listed, a, _, hk, hB, h => by
    obtain rfl : k = n := by simpa using hk
    rw [List.length_nil, Nat.zero_add]
    exact hN listed a (by simpa [Region.lexHead] using hB) h
  | o :: l, k, listed, a, hl, hk, hB, h => by
    have h0 : ops[k]? = some o := by simpa using (hl 0 (by simp)).symm
    simp only [List.length_cons, Region.lexHead, Bool.and_eq_true] at hB
    obtain ⟨⟨hr, hf⟩, hB'⟩ := hB
    have hr' : k ∈ Region.ready md ops listed := by simpa using hr
    have hl' : ∀ j, j < l.length → l[j]? = ops[k + 1 + j]? := fun j hj => by
      have := hl (j + 1) (by simp; omega)
      simpa [Nat.add_assoc, Nat.add_comm 1 j] using this
    have hk' : k + 1 + l.length = n := by simp only [List.length_cons] at hk; omega
    have hkept : Kept (Ext w) (Ext w) := ⟨fun _ k => k, fun _ _ h k => h.trans k⟩
    rw [List.length_cons, show l.length + 1 + g = (l.length + g) + 1 by omega]
    unfold headS at h
    by_cases hwa : Region.wanted o (yielded ops a.tmps) = true
    · simp only [hwa, if_true] at h
      obtain ⟨v, hv, hrest⟩ := h
      have hy : YieldsE P ops (Ext w) o v a := Or.inl ⟨hwa, fun w' hw' => by
        obtain ⟨p, rfl⟩ := regrown_of_below hw'
        exact quiet_up (fun w2 ⟨q, hq⟩ => by rw [hq]; exact below_regrown _ _ _) (hv p)⟩
      exact anyS_first h0 (Region.noSelect_spec hsel) (fun c a w => hQ c a _ _ w) _ listed a (Ext w) hkept (Region.free_spec h0 hf) hr' hy (anyS_lex hsel hQ hN l (k + 1) _ _ hl' hk' hB' hrest)
    · simp only [hwa] at h
      have hy : YieldsE P ops (Ext w) o undef a := Or.inr ⟨by simpa using hwa, rfl⟩
      exact anyS_first h0 (Region.noSelect_spec hsel) (fun c a w => hQ c a _ _ w) _ listed a (Ext w) hkept (Region.free_spec h0 hf) hr' hy (anyS_lex hsel hQ hN l (k + 1) _ _ hl' hk' hB' h)

/-- The region: its first n operations are taken first. -/
theorem region_heads {id : Nat} {a : Act} {w : World} {l : List Oper} (n : Nat) (hm : P.follows .mixedOrders = true) (hn : n ≤ l.length) (hB : (Region.noSelect l.toArray && Region.lexHead .any l.toArray (l.length - n) n 0 (Array.replicate l.toArray.size false)) = true)
    (hQ : ∀ c a d v w, Q (.panic c) (a.put d v) w → Q (.panic c) a w)
    (h : headS P l.toArray w (fun a' => ∀ w', Ext w w' → tailS P l.toArray Q (Ext w) (l.drop n) a' w') (l.take n) a) : (Code.region id l.toArray true).wp P Q a w := by
  rw [Bool.and_eq_true] at hB
  obtain ⟨hsel, hlex⟩ := hB
  have htl : (l.take n).length = n := by simp; omega
  have hdl : (l.drop n).length = l.length - n := by simp
  refine wp_region_any hm ?_
  have H := anyS_lex (md := .any) (P := P) (Q := Q) (w := w) (N := fun a' => ∀ w', Ext w w' → tailS P l.toArray Q (Ext w) (l.drop n) a' w') hsel hQ (g := l.length - n) (n := n) (fun listed a' hs hN => by
    have := anyS_seq (md := .any) (P := P) (Q := Q) (C := Ext w) (fun _ _ h k => h.trans k) (l.drop n) n listed a' (Ext w) (fun j => by simp [List.getElem?_drop]) (by rw [hdl]; exact hs) hN
    rwa [hdl] at this) (l.take n) 0 _ a (fun j hj => by
      have hj' : j < n := by rw [htl] at hj; exact hj
      simp [hj']) (by simpa using htl) (by rw [htl]; exact hlex) h
  rw [htl, show n + (l.length - n) = l.toArray.size by simp; omega] at H
  exact any_of_S _ _ _ _ _ (show Ext w { w with drawn := w.drawn + 1 } from ⟨rfl, rfl, rfl, Nat.le_refl _, fun _ _ => rfl⟩) H

/-! The same where what stands at the end waits for all that is ahead of it: the end may then write where it likes. -/

def anyT (P : Program) (md : Region.Mode) (ops : Array Oper) (Q : Exit → Act → World → Prop) (C : World → Prop) (n : Nat) (L : Array Bool → Act → (World → Prop) → Prop) : Nat → Array Bool → Act → (World → Prop) → Prop
  | 0, listed, a, G => L listed a G
  | f + 1, listed, a, G => Region.ready md ops listed ≠ [] ∧ ∀ i ∈ Region.ready md ops listed, i < n ∧ opS P ops Q C i (anyT P md ops Q C n L f (listed.setIfInBounds i true)) a G

theorem any_of_T {n g : Nat} {L : Array Bool → Act → (World → Prop) → Prop} (hL : ∀ listed a G w, L listed a G → G w → wpAny P md ops Q g listed a w) :
    ∀ (f : Nat) (listed : Array Bool) (a : Act) (G : World → Prop) (w : World), G w → anyT P md ops Q C n L f listed a G → wpAny P md ops Q (f + g) listed a w
  | 0, listed, a, G, w, hG, h => by rw [Nat.zero_add]; exact hL _ _ _ _ h hG
  | f + 1, listed, a, G, w, hG, h => by
    rw [show f + 1 + g = (f + g) + 1 by omega]
    exact ⟨fun e => absurd e h.1, fun i hi => wpOp_mono (fun a' w' ⟨G', _, hw, hr⟩ => any_of_T hL f _ a' G' w' hw hr) ((h.2 i hi).2 w hG)⟩

theorem anyT_first {n i : Nat} {oi : Oper} {v : Value} {L : Array Bool → Act → (World → Prop) → Prop} (hi : ops[i]? = some oi) (hsel : ∀ (j : Nat) (o : Oper) cs b, ops[j]? = some o → o.op ≠ .select cs b) (hQ : ∀ c a w, Q (.panic c) (a.put oi.dst v) w → Q (.panic c) a w)
    (hs : Region.sinkB md ops n = true) (hc : Region.chainB md ops n = true) (hn : n < ops.size) (hin : i < n) (hdone : ∀ listed a G, L listed a G → ∀ j ∈ Region.ready md ops listed, n ≤ j) :
    ∀ (f : Nat) (listed : Array Bool) (a : Act) (G : World → Prop), Kept C G → HeadInv md ops n listed →
      (∀ j oj, ops[j]? = some oj → j ≠ i → listed.getD j true = false → (∀ e ∈ oj.after, Region.binds md e = true → e.on ≠ i) → oi.apart ops oj = true) →
      i ∈ Region.ready md ops listed → YieldsE P ops C oi v a → anyT P md ops Q C n L f (listed.setIfInBounds i true) (a.put oi.dst v) G → anyT P md ops Q C n L (f + 1) listed a G := by
  intro f
  induction f with
  | zero =>
    intro listed a G hG inv hfree hr hy H
    have early : ∀ j ∈ Region.ready md ops listed, j < n := fun j hj => Nat.lt_of_not_le fun h => tail_waits hs hc hn inv _ i rfl hin (mem_ready.1 hr).1 j h hj
    refine ⟨fun e => absurd (e ▸ hr) (by simp), fun j hj => ⟨early j hj, fun w hw => ?_⟩⟩
    by_cases e : j = i
    · subst e
      exact hy.runs hi (hG.sub w hw) fun w' hx => ⟨G, hG, hG.up w w' hw hx, H⟩
    · exact absurd (hdone _ _ _ H j (ready_mono hj e)) (by have := early j hj; omega)
  | succ f ih =>
    intro listed a G hG inv hfree hr hy H
    have early : ∀ j ∈ Region.ready md ops listed, j < n := fun j hj => Nat.lt_of_not_le fun h => tail_waits hs hc hn inv _ i rfl hin (mem_ready.1 hr).1 j h hj
    refine ⟨fun e => absurd (e ▸ hr) (by simp), fun j hj => ⟨early j hj, ?_⟩⟩
    by_cases e : j = i
    · subst e
      intro w hw
      exact hy.runs hi (hG.sub w hw) fun w' hx => ⟨G, hG, hG.up w w' hw hx, H⟩
    · obtain ⟨hju, oj, hoj, hall⟩ := mem_ready.1 hj
      have hno : ∀ x ∈ oj.after, Region.binds md x = true → x.on ≠ i := by
        intro x hx hb he
        have k1 := hall x hx hb
        rw [he, getD_both (mem_ready.1 hr).1] at k1
        cases k1
      have hfree2 : ∀ k ok, ops[k]? = some ok → k ≠ i → (listed.setIfInBounds j true).getD k true = false → (∀ x ∈ ok.after, Region.binds md x = true → x.on ≠ i) → oi.apart ops ok = true := by
        intro k ok hk hki hun hn
        refine hfree k ok hk hki ?_ hn
        by_cases hjk : j = k
        · subst hjk; exact hju
        · rwa [getD_set_ne true hjk] at hun
      have h2 := opS_put hoj (hfree j oj hoj e hju hno) (fun cs b => hsel i oi cs b hi) (fun cs b => hsel j oj cs b hoj) hQ hy (H.2 j (ready_mono hj e)).2
      intro w hw
      refine wpOp_mono ?_ (h2 w hw)
      rintro a' w' ⟨G', hk, hw', hy', hK⟩
      refine ⟨G', hk, hw', ih _ a' G' hk (inv.set hj (early j hj)) hfree2 (ready_mono hr (Ne.symm e)) hy' ?_⟩
      rw [Array.setIfInBounds_comm _ _ e]
      exact hK

theorem anyT_lex {w : World} {N : Act → Prop} (hsel : Region.noSelect ops = true) (hQ : ∀ c a d v w, Q (.panic c) (a.put d v) w → Q (.panic c) a w) {g n : Nat} (hs : Region.sinkB md ops n = true) (hc : Region.chainB md ops n = true) (hn : n < ops.size) :
    ∀ (l : List Oper) (k : Nat) (listed : Array Bool) (a : Act), (∀ j, j < l.length → l[j]? = ops[k + j]?) → k + l.length = n → HeadInv md ops n listed → Region.lexHead md ops g l.length k listed = true →
    headS P ops w N l a → anyT P md ops Q (Ext w) n (fun listed' a' G => Region.seqB md ops g n listed' = true ∧ N a' ∧ ∀ w', G w' → Ext w w') l.length listed a (Ext w)
  | [], k, listed, a, _, hk, _, hB, h => by
    obtain rfl : k = n := by simpa using hk
    exact ⟨by simpa [Region.lexHead] using hB, h, fun _ k => k⟩
  | o :: l, k, listed, a, hl, hk, inv, hB, h => by
    have h0 : ops[k]? = some o := by simpa using (hl 0 (by simp)).symm
    simp only [List.length_cons, Region.lexHead, Bool.and_eq_true] at hB
    obtain ⟨⟨hr, hf⟩, hB'⟩ := hB
    have hr' : k ∈ Region.ready md ops listed := by simpa using hr
    have hkn : k < n := by simp only [List.length_cons] at hk; omega
    have hl' : ∀ j, j < l.length → l[j]? = ops[k + 1 + j]? := fun j hj => by
      have := hl (j + 1) (by simp; omega)
      simpa [Nat.add_assoc, Nat.add_comm 1 j] using this
    have hk' : k + 1 + l.length = n := by simp only [List.length_cons] at hk; omega
    have hkept : Kept (Ext w) (Ext w) := ⟨fun _ k => k, fun _ _ h k => h.trans k⟩
    have done : ∀ (listed' : Array Bool) (a' : Act) (G : World → Prop), (Region.seqB md ops g n listed' = true ∧ N a' ∧ ∀ w', G w' → Ext w w') → ∀ j ∈ Region.ready md ops listed', n ≤ j := fun listed' a' G hL => seqB_ready hL.1
    unfold headS at h
    by_cases hwa : Region.wanted o (yielded ops a.tmps) = true
    · simp only [hwa, if_true] at h
      obtain ⟨v, hv, hrest⟩ := h
      have hy : YieldsE P ops (Ext w) o v a := Or.inl ⟨hwa, fun w' hw' => by
        obtain ⟨p, rfl⟩ := regrown_of_below hw'
        exact quiet_up (fun w2 ⟨q, hq⟩ => by rw [hq]; exact below_regrown _ _ _) (hv p)⟩
      exact anyT_first h0 (Region.noSelect_spec hsel) (fun c a w => hQ c a _ _ w) hs hc hn hkn done _ listed a (Ext w) hkept inv (Region.free_spec h0 hf) hr' hy (anyT_lex hsel hQ hs hc hn l (k + 1) _ _ hl' hk' (inv.set hr' hkn) hB' hrest)
    · simp only [hwa] at h
      have hy : YieldsE P ops (Ext w) o undef a := Or.inr ⟨by simpa using hwa, rfl⟩
      exact anyT_first h0 (Region.noSelect_spec hsel) (fun c a w => hQ c a _ _ w) hs hc hn hkn done _ listed a (Ext w) hkept inv (Region.free_spec h0 hf) hr' hy (anyT_lex hsel hQ hs hc hn l (k + 1) _ _ hl' hk' (inv.set hr' hkn) hB' h)

/-- The region whose end waits: behind its first n operations the rest as a plain list. -/
theorem region_heads_tail {id : Nat} {a : Act} {w : World} {l : List Oper} (n : Nat) (hm : P.follows .mixedOrders = true) (hB : Region.lexTailB .any l.toArray n = true) (hQ : ∀ c a d v w, Q (.panic c) (a.put d v) w → Q (.panic c) a w)
    (h : headS P l.toArray w (fun a' => ∀ w', Ext w w' → wpList P l.toArray Q (l.drop n) a' w') (l.take n) a) : (Code.region id l.toArray true).wp P Q a w := by
  simp only [Region.lexTailB, Bool.and_eq_true, decide_eq_true_eq] at hB
  obtain ⟨⟨⟨⟨hsel, hn⟩, hs⟩, hc⟩, hlex⟩ := hB
  have hn' : n < l.length := by simpa using hn
  have htl : (l.take n).length = n := by simp; omega
  have hdl : (l.drop n).length = l.toArray.size - n := by simp
  have inv0 : HeadInv .any l.toArray n (Array.replicate l.toArray.size false) :=
    ⟨by simp, fun j oj _ hl => (by rw [getD_replicate_false] at hl; cases hl), fun t _ ht => getD_in (by simpa using ht) (getD_replicate_false _ _)⟩
  have H := anyT_lex (md := .any) (P := P) (Q := Q) (w := w) (N := fun a' => ∀ w', Ext w w' → wpList P l.toArray Q (l.drop n) a' w') hsel hQ (g := l.toArray.size - n) (n := n) hs hc hn (l.take n) 0 _ a (fun j hj => by
      have hj' : j < n := by rw [htl] at hj; exact hj
      simp [hj']) (by simpa using htl) inv0 (by rw [htl]; exact hlex) h
  refine wp_region_any hm ?_
  have R := any_of_T (P := P) (md := .any) (Q := Q) (g := l.toArray.size - n) (fun listed a' G w' hL hG => by
    have := wpAny_of_seq (md := .any) (Q' := Q) (l.drop n) n listed a' w' (fun j => by simp [List.getElem?_drop]) (by rw [hdl]; exact hL.1) (hL.2.1 w' (hL.2.2 w' hG))
    rwa [hdl] at this) _ _ _ _ _ (show Ext w { w with drawn := w.drawn + 1 } from ⟨rfl, rfl, rfl, Nat.le_refl _, fun _ _ => rfl⟩) H
  rw [htl, show n + (l.toArray.size - n) = l.toArray.size by omega] at R
  exact R

end
end

section
set_option linter.unusedVariables false
open Go Go.Sort Go.RowKit

section
variable {P : Program} {ops : Array Oper} {md : Region.Mode} {Q : Exit → Act → World → Prop}

/-- Whatever order is picked from here on, in every world that is W with blocks laid behind it; what is read lies in V, the world in which the region began. -/
def anyW (P : Program) (md : Region.Mode) (ops : Array Oper) (Q : Exit → Act → World → Prop) (V : World) (f : Nat) (listed : Array Bool) (a : Act) (W : World) : Prop := Ext V W → anyS P md ops Q (Ext V) f listed a (Ext W)

theorem kept_ext {V W : World} (h : Ext V W) : Kept (Ext V) (Ext W) := ⟨fun _ k => h.trans k, fun _ _ h k => h.trans k⟩

theorem anyW_begin {id : Nat} {a : Act} {w : World} {l : List Oper} (n : Nat) (hn : l.length = n) (hm : P.follows .mixedOrders = true) (h : anyW P .any l.toArray Q w n (Array.replicate n false) a w) : (Code.region id l.toArray true).wp P Q a w := by
  subst hn
  refine wp_region_any hm ?_
  have := any_of_S _ _ _ _ _ (show Ext w { w with drawn := w.drawn + 1 } from ⟨rfl, rfl, rfl, Nat.le_refl _, fun _ _ => rfl⟩) (h (Ext.refl w))
  simpa using this

/-- Operations k, k + 1 .. may be taken one after the other. -/
def takeB (md : Region.Mode) (ops : Array Oper) : Nat → Nat → Array Bool → Bool
  | 0, _, _ => true
  | n + 1, k, listed => (Region.ready md ops listed).contains k && Region.free md ops listed k && takeB md ops n (k + 1) (listed.setIfInBounds k true)

def setB : Nat → Nat → Array Bool → Array Bool
  | 0, _, L => L
  | n + 1, k, L => setB n (k + 1) (L.setIfInBounds k true)

theorem take_list (hsel : Region.noSelect ops = true) (hQ : ∀ c a d v w, Q (.panic c) (a.put d v) w → Q (.panic c) a w) {V W : World} {f : Nat} :
    ∀ (l : List Oper) (k : Nat) (listed : Array Bool) (a : Act), (∀ j, j < l.length → l[j]? = ops[k + j]?) → takeB md ops l.length k listed = true →
    headS P ops V (fun a' => anyW P md ops Q V f (setB l.length k listed) a' W) l a → anyW P md ops Q V (l.length + f) listed a W
  | [], k, listed, a, _, _, h => by
    rw [List.length_nil, Nat.zero_add]
    exact h
  | o :: l, k, listed, a, hl, hB, h => by
    have h0 : ops[k]? = some o := by simpa using (hl 0 (by simp)).symm
    simp only [List.length_cons, takeB, Bool.and_eq_true] at hB
    obtain ⟨⟨hr, hf⟩, hB'⟩ := hB
    have hr' : k ∈ Region.ready md ops listed := by simpa using hr
    have hl' : ∀ j, j < l.length → l[j]? = ops[k + 1 + j]? := fun j hj => by
      have := hl (j + 1) (by simp; omega)
      simpa [Nat.add_assoc, Nat.add_comm 1 j] using this
    rw [List.length_cons, show l.length + 1 + f = (l.length + f) + 1 by omega]
    intro hV
    unfold headS at h
    by_cases hwa : Region.wanted o (yielded ops a.tmps) = true
    · simp only [hwa, if_true] at h
      obtain ⟨v, hv, hrest⟩ := h
      have hy : YieldsE P ops (Ext V) o v a := Or.inl ⟨hwa, fun w' hw' => by
        obtain ⟨p, rfl⟩ := regrown_of_below hw'
        exact quiet_up (fun w2 ⟨q, hq⟩ => by rw [hq]; exact below_regrown _ _ _) (hv p)⟩
      exact anyS_first h0 (Region.noSelect_spec hsel) (fun c a w => hQ c a _ _ w) _ listed a (Ext W) (kept_ext hV) (Region.free_spec h0 hf) hr' hy (take_list hsel hQ l (k + 1) _ _ hl' hB' hrest hV)
    · simp only [hwa] at h
      have hy : YieldsE P ops (Ext V) o undef a := Or.inr ⟨by simpa using hwa, rfl⟩
      exact anyS_first h0 (Region.noSelect_spec hsel) (fun c a w => hQ c a _ _ w) _ listed a (Ext W) (kept_ext hV) (Region.free_spec h0 hf) hr' hy (take_list hsel hQ l (k + 1) _ _ hl' hB' h hV)

/-- n operations from number k on are taken first. -/
theorem anyW_take {l : List Oper} {V W : World} {listed : Array Bool} {a : Act} (k n f : Nat) {m : Nat} (hm : n + f = m) (hn : k + n ≤ l.length) (hB : (Region.noSelect l.toArray && takeB md l.toArray n k listed) = true) (hQ : ∀ c a d v w, Q (.panic c) (a.put d v) w → Q (.panic c) a w)
    (h : headS P l.toArray V (fun a' => anyW P md l.toArray Q V f (setB n k listed) a' W) ((l.drop k).take n) a) : anyW P md l.toArray Q V m listed a W := by
  rw [Bool.and_eq_true] at hB
  have hl : ((l.drop k).take n).length = n := by simp; omega
  subst hm
  have := take_list (md := md) (P := P) (Q := Q) (V := V) (W := W) (f := f) hB.1 hQ ((l.drop k).take n) k listed a (fun j hj => by
    rw [hl] at hj
    simp [hj, List.getElem?_drop]) (by rw [hl]; exact hB.2) (by rw [hl]; exact h)
  rwa [hl] at this

/-- One of those that may come up. -/
def stepW (P : Program) (md : Region.Mode) (ops : Array Oper) (Q : Exit → Act → World → Prop) (V : World) (f : Nat) (listed : Array Bool) (i : Nat) (a : Act) (W : World) : Prop :=
  ∀ w, Ext W w → wpOp P ops Q i (fun a' w' => Ext V w' ∧ anyW P md ops Q V f (listed.setIfInBounds i true) a' w') a w

theorem anyW_all {V W : World} {listed : Array Bool} {a : Act} {f : Nat} (rs : List Nat) (hr : Region.ready md ops listed = rs) (hne : rs ≠ []) (h : ∀ i ∈ rs, stepW P md ops Q V f listed i a W) : anyW P md ops Q V (f + 1) listed a W := by
  intro hV
  refine ⟨fun e => absurd (hr ▸ e) hne, fun i hi w hw => wpOp_mono ?_ (h i (hr ▸ hi) w hw)⟩
  rintro a' w' ⟨hx, hk⟩
  exact ⟨Ext w', kept_ext hx, Ext.refl _, hk hx⟩

theorem anyW_done {V W : World} {listed : Array Bool} {a : Act} (hr : Region.ready md ops listed = []) (h : ∀ w, Ext W w → Q .normal a w) : ∀ f, anyW P md ops Q V f listed a W
  | 0 => fun _ => ⟨hr, h⟩
  | _ + 1 => fun _ => ⟨fun _ => h, by rw [hr]; simp⟩

theorem anyW_one {V W : World} {listed : Array Bool} {a : Act} {f : Nat} (i : Nat) (hr : Region.ready md ops listed = [i]) (h : stepW P md ops Q V f listed i a W) : anyW P md ops Q V (f + 1) listed a W :=
  anyW_all [i] hr (by simp) (fun j hj => by rw [List.mem_singleton.1 hj]; exact h)

theorem anyW_two {V W : World} {listed : Array Bool} {a : Act} {f : Nat} (i j : Nat) (hr : Region.ready md ops listed = [i, j]) (h : stepW P md ops Q V f listed i a W) (k : stepW P md ops Q V f listed j a W) : anyW P md ops Q V (f + 1) listed a W :=
  anyW_all [i, j] hr (by simp) (fun l hl => by
    rcases List.mem_cons.1 hl with rfl | hl
    · exact h
    · rw [List.mem_singleton.1 hl]; exact k)

/-- The step itself: the operation is run. -/
theorem stepW_run {V W : World} {listed : Array Bool} {a : Act} {f i : Nat} {o : Oper} (hi : ops[i]? = some o)
    (h : ∀ w, Ext W w → ∀ K : Act → World → Prop, (∀ a' w', Ext V w' → anyW P md ops Q V f (listed.setIfInBounds i true) a' w' → K a' w') → if Region.wanted o (yielded ops a.tmps) then o.wp P a w K Q else K (a.put o.dst undef) w) : stepW P md ops Q V f listed i a W := by
  intro w hw
  have k := h w hw (fun a' w' => Ext V w' ∧ anyW P md ops Q V f (listed.setIfInBounds i true) a' w') (fun a' w' hx hr => ⟨hx, hr⟩)
  unfold wpOp
  rw [hi]
  by_cases hwa : Region.wanted o (yielded ops a.tmps) = true
  · simp only [hwa, if_true] at k ⊢
    exact Or.inl k
  · simp only [hwa] at k ⊢
    exact k

end
end

section
set_option linter.unusedVariables false
open Go.RowKit

theorem hide {p : Prop} (h : p) : Hid p := h

/-- A slice of n ints that leads to block b, place off: its i-th element is f i. -/
structure Seg (w : World) (a : Option Addr) (b off n : Nat) (f : Nat → Int) : Prop where
  at' : 0 < n → a = some ⟨b, off, none⟩
  cell : ∀ i, i < n → w.cell? ⟨b, off + i, none⟩ = some (.int .i64 (f i))

theorem Seg.lt {w : World} {a : Option Addr} {b off n : Nat} {f : Nat → Int} (h : Seg w a b off n f) (hn : 0 < n) : b < w.heap.size :=
  World.block_lt_of_cell? _ _ (h.cell 0 hn)

/-- What lies below B is read in a later world as before. -/
theorem Seg.below {w w' : World} {a : Option Addr} {b off n : Nat} {f : Nat → Int} (h : Seg w a b off n f) {B : Nat} (hb : Below B w w') (hB : 0 < n → b < B) : Seg w' a b off n f :=
  ⟨h.at', fun i hi => (hb.cell (p := ⟨b, off + i, none⟩) (hB (by omega))).trans (h.cell i hi)⟩

/-- The whole heap is as it was. -/
theorem Seg.of_all {w w' : World} {a : Option Addr} {b off n : Nat} {f : Nat → Int} (h : Seg w a b off n f) (hb : Below w.heap.size w w') : Seg w' a b off n f :=
  h.below hb (fun hn => h.lt hn)

theorem Seg.congr {w : World} {a : Option Addr} {b off n : Nat} {f g : Nat → Int} (h : Seg w a b off n f) (hg : ∀ i, i < n → f i = g i) : Seg w a b off n g :=
  ⟨h.at', fun i hi => by rw [h.cell i hi, hg i hi]⟩

/-- A row of the call's own, read as a slice. -/
theorem Seg.of_row {w : World} {b n : Nat} {t : TypeId} {m : Nat} {f : Nat → Int} (h : w.rowIs b t m (fun j => .int .i64 (f j))) (hn : n ≤ m) : Seg w (some ⟨b, 0, none⟩) b 0 n f :=
  ⟨fun _ => rfl, fun i hi => by rw [Nat.zero_add]; exact h.cell (by omega)⟩

theorem rowIs_below {w w' : World} {b n : Nat} {t : TypeId} {f : Nat → Value} (h : w.rowIs b t n f) {B : Nat} (hb : Below B w w') (hB : b < B) : w'.rowIs b t n f :=
  h.of_block (hb.block b hB)

/-- A slice whose cells are not frozen: it may be written. -/
structure Own (w : World) (a : Option Addr) (g off n : Nat) (f : Nat → Int) : Prop extends Seg w a g off n f where
  free : ∀ i, i < n → w.frozen? ⟨g, off + i, none⟩ = false

theorem Own.nil (w : World) (a : Option Addr) (g off : Nat) (f : Nat → Int) : Own w a g off 0 f :=
  ⟨⟨fun h => absurd h (Nat.lt_irrefl _), fun i hi => absurd hi (Nat.not_lt_zero _)⟩, fun i hi => absurd hi (Nat.not_lt_zero _)⟩

theorem Own.of_row {w : World} {b n : Nat} {t : TypeId} {m : Nat} {f : Nat → Int} (h : w.rowIs b t m (fun j => .int .i64 (f j))) (hn : n ≤ m) : Own w (some ⟨b, 0, none⟩) b 0 n f :=
  ⟨Seg.of_row h hn, fun i _ => h.frozen _⟩

theorem Own.congr {w : World} {a : Option Addr} {g off n : Nat} {f f' : Nat → Int} (h : Own w a g off n f) (e : ∀ i, i < n → f i = f' i) : Own w a g off n f' :=
  ⟨h.toSeg.congr e, h.free⟩

theorem Own.below {w w' : World} {a : Option Addr} {g off n : Nat} {f : Nat → Int} (h : Own w a g off n f) {B : Nat} (hb : Below B w w') (hB : 0 < n → g < B) : Own w' a g off n f :=
  ⟨h.toSeg.below hb hB, fun i hi => (hb.frozen (p := ⟨g, off + i, none⟩) (hB (by omega))).trans (h.free i hi)⟩

theorem Own.of_all {w w' : World} {a : Option Addr} {g off n : Nat} {f : Nat → Int} (h : Own w a g off n f) (hb : Below w.heap.size w w') : Own w' a g off n f :=
  h.below hb (fun hn => h.lt hn)

theorem Own.set {w : World} {a : Option Addr} {g off n : Nat} {f : Nat → Int} (h : Own w a g off n f) {k : Nat} (hk : k < n) (x : Int) :
    Own (w.setCell ⟨g, off + k, none⟩ (.int .i64 x)) a g off n (fun j => if j = k then x else f j) := by
  refine ⟨⟨h.at', fun i hi => ?_⟩, fun i hi => by rw [World.frozen?_setCell]; exact h.free i hi⟩
  by_cases e : i = k
  · subst e
    rw [World.cell?_setCell_same _ _ _ (h.cell i hi)]
    simp
  · rw [World.cell?_setCell_other _ _ _ _ (fun h => by have := congrArg Addr.off h; simp at this; omega), h.cell i hi]
    simp [e]

/-- A cut of a slice. -/
theorem Seg.cut {w : World} {a : Option Addr} {b off n : Nat} {f : Nat → Int} (h : Seg w a b off n f) {m : Nat} (hm : m ≤ n) : Seg w a b off m f :=
  ⟨fun h0 => h.at' (by omega), fun i hi => h.cell i (by omega)⟩

theorem Own.cut {w : World} {a : Option Addr} {b off n : Nat} {f : Nat → Int} (h : Own w a b off n f) {m : Nat} (hm : m ≤ n) : Own w a b off m f :=
  ⟨h.toSeg.cut hm, fun i hi => h.free i (by omega)⟩

/-- Only block g may have turned; no block has come. -/
structure Touch (g : Nat) (w w' : World) : Prop where
  grown : w.grownBy w' (some g)
  size : w'.heap.size = w.heap.size

theorem Touch.refl (g : Nat) (w : World) : Touch g w w := ⟨⟨rfl, rfl, rfl, Nat.le_refl _, fun _ _ _ => rfl⟩, rfl⟩

theorem Touch.set {g : Nat} {w wr : World} (h : Touch g w wr) (i : Nat) (v : Value) : Touch g w (wr.setCell ⟨g, i, none⟩ v) := by
  refine ⟨⟨h.grown.os, h.grown.tape, h.grown.output, by simp [World.setCell, h.size], fun k hk hne => ?_⟩, by simp [World.setCell, h.size]⟩
  rw [Below.heap_setCell _ _ _ _ (by intro e; exact hne (by rw [e]))]
  exact h.grown.block k hk hne

theorem Touch.drew {g : Nat} {w wr : World} (h : Touch g w wr) (q : Nat) : Touch g w (wr.drewN q) :=
  ⟨⟨h.grown.os, h.grown.tape, h.grown.output, h.grown.size, h.grown.block⟩, h.size⟩

theorem Touch.trans {g : Nat} {w w1 w2 : World} (h : Touch g w w1) (k : Touch g w1 w2) : Touch g w w2 :=
  ⟨⟨k.grown.os.trans h.grown.os, k.grown.tape.trans h.grown.tape, k.grown.output.trans h.grown.output, Nat.le_trans h.grown.size k.grown.size,
    fun i hi hne => (k.grown.block i (by rw [h.size]; exact hi) hne).trans (h.grown.block i hi hne)⟩, k.size.trans h.size⟩

/-- Only places off .. off + n of block g may have turned. -/
structure Spot (g off n : Nat) (w w' : World) : Prop extends Touch g w w' where
  cells : ∀ o, o < off ∨ off + n ≤ o → w'.cell? ⟨g, o, none⟩ = w.cell? ⟨g, o, none⟩
  froz : ∀ o, w'.frozen? ⟨g, o, none⟩ = w.frozen? ⟨g, o, none⟩

theorem Spot.refl (g off n : Nat) (w : World) : Spot g off n w w := ⟨Touch.refl _ _, fun _ _ => rfl, fun _ => rfl⟩

theorem Spot.set {g off n : Nat} {w wr : World} (h : Spot g off n w wr) {k : Nat} (hk : k < n) (v : Value) : Spot g off n w (wr.setCell ⟨g, off + k, none⟩ v) :=
  ⟨h.toTouch.set _ _, fun o ho => by
    rw [World.cell?_setCell_other _ _ _ _ (fun e => by have := congrArg Addr.off e; simp at this; omega)]
    exact h.cells o ho, fun o => by rw [World.frozen?_setCell]; exact h.froz o⟩

theorem Spot.trans {g off n : Nat} {w w1 w2 : World} (h : Spot g off n w w1) (k : Spot g off n w1 w2) : Spot g off n w w2 :=
  ⟨h.toTouch.trans k.toTouch, fun o ho => (k.cells o ho).trans (h.cells o ho), fun o => (k.froz o).trans (h.froz o)⟩

theorem Spot.drew {g off n : Nat} {w w1 : World} (h : Spot g off n w w1) (q : Nat) : Spot g off n w (w1.drewN q) := ⟨h.toTouch.drew q, h.cells, h.froz⟩

theorem below_touch {B g : Nat} {a w w' : World} (h : Below B a w) (ht : Touch g w w') (hg : B ≤ g) : Below B a w' :=
  h.trans ⟨ht.grown.os, ht.grown.tape, ht.grown.output, ht.grown.size, fun k hk => by
    by_cases hs : k < w.heap.size
    · exact ht.grown.block k hs (by simp; omega)
    · rw [Array.getElem?_eq_none (by rw [ht.size]; omega), Array.getElem?_eq_none (by omega)]⟩

theorem Seg.touch {w w' : World} {a : Option Addr} {b off n g : Nat} {f : Nat → Int} (h : Seg w a b off n f) (ht : Touch g w w') (hg : 0 < n → b ≠ g) : Seg w' a b off n f :=
  ⟨h.at', fun i hi => (World.cell?_of_block (a := ⟨b, off + i, none⟩) (ht.grown.block b (h.lt (by omega)) (by simp; exact hg (by omega)))).trans (h.cell i hi)⟩

theorem Own.touch {w w' : World} {a : Option Addr} {b off n g : Nat} {f : Nat → Int} (h : Own w a b off n f) (ht : Touch g w w') (hg : 0 < n → b ≠ g) : Own w' a b off n f :=
  ⟨h.toSeg.touch ht hg, fun i hi => (World.frozen?_of_block (a := ⟨b, off + i, none⟩) (ht.grown.block b (h.lt (by omega)) (by simp; exact hg (by omega)))).trans (h.free i hi)⟩

/-- The first n ints, as cells. -/
def ints (f : Nat → Int) (n : Nat) : List Value := (List.range n).map (fun i => .int .i64 (f i))

theorem ints_length (f : Nat → Int) (n : Nat) : (ints f n).length = n := by simp [ints]

theorem ints_succ (f : Nat → Int) (n : Nat) : ints f (n + 1) = ints f n ++ [.int .i64 (f n)] := by simp [ints, List.range_succ]

/-- What appends have gathered is a slice of the call's own. -/
theorem own_of_owns {w : World} {base : Nat} {e : TypeId} {v : Value} {n : Nat} {f : Nat → Int} (h : w.ownsRow base e 1 v n (ints f n)) :
    ∃ a g cap, v = .slice a n cap ∧ base ≤ g ∧ Own w a g 0 n f := by
  rcases h.2 with ⟨rfl, rfl⟩ | ⟨g, cap, cur, rfl, hg, hb, hn, hm, hs, ht⟩
  · exact ⟨none, base, 0, rfl, Nat.le_refl _, Own.nil _ _ _ _ _⟩
  · refine ⟨_, g, cap, rfl, hg, ⟨fun _ => rfl, fun i hi => ?_⟩, fun i hi => by simp [World.frozen?, hb]⟩
    have hx : (cur.toList.take (n * 1))[i]? = some (.int .i64 (f i)) := by rw [ht]; simp [ints, hi]
    rw [List.getElem?_take] at hx
    simp only [Nat.mul_one, hi, if_true] at hx
    simp [World.cell?, hb]
    simpa using hx

/-- A digit. -/
def dig (x : Int) : Bool := decide (0 ≤ x) && decide (x ≤ 65535)

/-- The first n places hold digits. -/
def digs (f : Nat → Int) : Nat → Bool
  | 0 => true
  | n + 1 => digs f n && dig (f n)

theorem digs_iff (f : Nat → Int) (n : Nat) : digs f n = true ↔ ∀ i, i < n → 0 ≤ f i ∧ f i ≤ 65535 := by
  induction n with
  | zero => simp [digs]
  | succ n ih =>
    simp only [digs, Bool.and_eq_true, ih, dig, decide_eq_true_eq]
    constructor
    · rintro ⟨h, h0, h1⟩ i hi
      by_cases e : i = n
      · subst e; exact ⟨h0, h1⟩
      · exact h i (by omega)
    · intro h
      exact ⟨fun i hi => h i (by omega), (h n (by omega)).1, (h n (by omega)).2⟩

/-- A list of n ints is a natural. -/
def natOk (n : Nat) (f : Nat → Int) : Bool := digs f n && (decide (n ≤ 64) && (n == 0 || f (n - 1) != 0))

theorem digs_false {f : Nat → Int} {n k : Nat} (hk : k < n) (h : f k < 0 ∨ 65535 < f k) : digs f n = false := by
  cases e : digs f n with
  | false => rfl
  | true => have := (digs_iff f n).1 e k hk; omega

theorem natOk_false {f : Nat → Int} {n k : Nat} (hk : k < n) (h : f k < 0 ∨ 65535 < f k) : natOk n f = false := by
  simp [natOk, digs_false hk h]

theorem natOk_long {f : Nat → Int} {n : Nat} (h : 64 < n) : natOk n f = false := by
  have : ¬ n ≤ 64 := by omega
  simp [natOk, this]

theorem natOk_end {f : Nat → Int} {n : Nat} (hd : ∀ i, i < n → 0 ≤ f i ∧ f i ≤ 65535) : natOk n f = (decide (n ≤ 64) && (n == 0 || f (n - 1) != 0)) := by
  simp [natOk, (digs_iff f n).2 hd]

theorem natOk_iff (n : Nat) (f : Nat → Int) : natOk n f = true ↔ (∀ i, i < n → 0 ≤ f i ∧ f i ≤ 65535) ∧ n ≤ 64 ∧ (n = 0 ∨ f (n - 1) ≠ 0) := by
  simp only [natOk, Bool.and_eq_true, digs_iff, decide_eq_true_eq, Bool.or_eq_true, beq_iff_eq, bne_iff_ne]

theorem ret_bool {a b : Bool} (h : a = b) : Ending.returned (.bool a) = .returned (.bool b) := by rw [h]
theorem ret_int {k : IntKind} {a b : Int} (h : a = b) : Ending.returned (.int k a) = .returned (.int k b) := by rw [h]

/-- Only draws lie between. -/
def Drawn (w w' : World) : Prop := ∃ q, w' = w.drewN q

theorem Drawn.refl (w : World) : Drawn w w := ⟨0, rfl⟩
theorem Drawn.more {w w' : World} (h : Drawn w w') (q : Nat) : Drawn w (w'.drewN q) := by
  obtain ⟨p, rfl⟩ := h
  exact ⟨_, World.drewN_drewN ..⟩
theorem Drawn.below {w w' : World} (h : Drawn w w') (B : Nat) : Below B w w' := by
  obtain ⟨p, rfl⟩ := h
  exact below_drewN (Below.refl _ _) p
end

section
set_option linter.unusedVariables false
open Go Go.Sort Go.RowKit

/-- w' is w with blocks laid behind it; those that X tells may have turned. -/
structure Grw (X : Nat → Prop) (w w' : World) : Prop where
  os : w'.os = w.os
  tape : w'.tape = w.tape
  output : w'.output = w.output
  size : w.heap.size ≤ w'.heap.size
  block : ∀ k, k < w.heap.size → ¬ X k → w'.heap[k]? = w.heap[k]?

theorem Grw.refl (X : Nat → Prop) (w : World) : Grw X w w := ⟨rfl, rfl, rfl, Nat.le_refl _, fun _ _ _ => rfl⟩

theorem Grw.trans {X : Nat → Prop} {a b c : World} (h : Grw X a b) (k : Grw X b c) : Grw X a c :=
  ⟨k.os.trans h.os, k.tape.trans h.tape, k.output.trans h.output, Nat.le_trans h.size k.size, fun i hi hn => (k.block i (Nat.lt_of_lt_of_le hi h.size) hn).trans (h.block i hi hn)⟩

theorem Grw.mono {X Y : Nat → Prop} {a b : World} (h : Grw X a b) (k : ∀ i, X i → Y i) : Grw Y a b :=
  ⟨h.os, h.tape, h.output, h.size, fun i hi hn => h.block i hi (fun e => hn (k i e))⟩

theorem Grw.of_ext {X : Nat → Prop} {a b : World} (h : Ext a b) : Grw X a b := ⟨h.os, h.tape, h.output, h.size, fun k hk _ => h.block k hk⟩

theorem Grw.of_touch {X : Nat → Prop} {C : Nat} {a b : World} (h : Touch C a b) (hX : X C) : Grw X a b :=
  ⟨h.grown.os, h.grown.tape, h.grown.output, Nat.le_of_eq h.size.symm, fun k hk hn => h.grown.block k hk (by simp; intro e; exact hn (e ▸ hX))⟩

theorem Grw.below {X : Nat → Prop} {S : Nat} {a b : World} (h : Grw X a b) (hS : ∀ k, k < S → ¬ X k) (hl : S ≤ a.heap.size) : Below S a b :=
  ⟨h.os, h.tape, h.output, h.size, fun k hk => h.block k (by omega) (hS k hk)⟩

/-- Block C alone. -/
def Cx (C k : Nat) : Prop := k = C

/-- Such a world. -/
structure ReC (X : Nat → Prop) (w : World) where
  val : World
  ok : Grw X w val

instance (X : Nat → Prop) (w : World) : Inhabited (ReC X w) := ⟨⟨w, .refl X w⟩⟩

theorem cell_reC {X : Nat → Prop} {w : World} {a : Addr} {v : Value} (h : w.cell? a = some v) (hne : ¬ X a.block) (p : ReC X w) : p.val.cell? a = some v := by
  rw [World.cell?_of_block (p.ok.block a.block (block_lt_of_cell h) hne)]; exact h

section
variable {P : Program} {ops : Array Oper} {md : Region.Mode} {Q : Exit → Act → World → Prop}

def anyK (P : Program) (md : Region.Mode) (ops : Array Oper) (Q : Exit → Act → World → Prop) (X : Nat → Prop) (V : World) (f : Nat) (listed : Array Bool) (a : Act) (W : World) : Prop := Grw X V W → anyS P md ops Q (Grw X V) f listed a (Ext W)

theorem kept_grw {X : Nat → Prop} {V W : World} (h : Grw X V W) : Kept (Grw X V) (Ext W) := ⟨fun _ k => h.trans (.of_ext k), fun _ _ h k => h.trans k⟩

theorem anyK_begin {id : Nat} {a : Act} {w : World} {l : List Oper} (X : Nat → Prop) (n : Nat) (hn : l.length = n) (hm : P.follows .mixedOrders = true) (h : anyK P .any l.toArray Q X w n (Array.replicate n false) a w) : (Code.region id l.toArray true).wp P Q a w := by
  subst hn
  refine wp_region_any hm ?_
  have := any_of_S _ _ _ _ _ (show Ext w { w with drawn := w.drawn + 1 } from ⟨rfl, rfl, rfl, Nat.le_refl _, fun _ _ => rfl⟩) (h (Grw.refl X w))
  simpa using this

/-- The walk of the operations that may be taken first. -/
def headC (P : Program) (ops : Array Oper) (X : Nat → Prop) (w : World) (N : Act → Prop) : List Oper → Act → Prop
  | [], a => N a
  | o :: rest, a =>
    if Region.wanted o (yielded ops a.tmps) then ∃ v, (∀ p : ReC X w, o.quietAt P a (fun w'' => ∃ q : Regrown, w'' = grow (redrawn p.val q.d) q.os) p.val v) ∧ headC P ops X w N rest (a.put o.dst v)
    else headC P ops X w N rest (a.put o.dst undef)

theorem headC_nil {X : Nat → Prop} {w : World} {N : Act → Prop} {a : Act} (h : N a) : headC P ops X w N [] a := h
theorem headC_step {X : Nat → Prop} {w : World} {N : Act → Prop} {o : Oper} {rest : List Oper} {a : Act}
    (h : ∀ K : Act → Prop, (∀ a, headC P ops X w N rest a → K a) → if Region.wanted o (yielded ops a.tmps) then ∃ v, (∀ p : ReC X w, o.quietAt P a (fun w'' => ∃ q : Regrown, w'' = grow (redrawn p.val q.d) q.os) p.val v) ∧ K (a.put o.dst v) else K (a.put o.dst undef)) : headC P ops X w N (o :: rest) a :=
  h _ fun _ k => k

theorem takeC_list (hsel : Region.noSelect ops = true) (hQ : ∀ c a d v w, Q (.panic c) (a.put d v) w → Q (.panic c) a w) {X : Nat → Prop} {V W : World} {f : Nat} :
    ∀ (l : List Oper) (k : Nat) (listed : Array Bool) (a : Act), (∀ j, j < l.length → l[j]? = ops[k + j]?) → takeB md ops l.length k listed = true →
    headC P ops X V (fun a' => anyK P md ops Q X V f (setB l.length k listed) a' W) l a → anyK P md ops Q X V (l.length + f) listed a W
  | [], k, listed, a, _, _, h => by
    rw [List.length_nil, Nat.zero_add]
    exact h
  | o :: l, k, listed, a, hl, hB, h => by
    have h0 : ops[k]? = some o := by simpa using (hl 0 (by simp)).symm
    simp only [List.length_cons, takeB, Bool.and_eq_true] at hB
    obtain ⟨⟨hr, hf⟩, hB'⟩ := hB
    have hr' : k ∈ Region.ready md ops listed := by simpa using hr
    have hl' : ∀ j, j < l.length → l[j]? = ops[k + 1 + j]? := fun j hj => by
      have := hl (j + 1) (by simp; omega)
      simpa [Nat.add_assoc, Nat.add_comm 1 j] using this
    rw [List.length_cons, show l.length + 1 + f = (l.length + f) + 1 by omega]
    intro hV
    unfold headC at h
    by_cases hwa : Region.wanted o (yielded ops a.tmps) = true
    · simp only [hwa, if_true] at h
      obtain ⟨v, hv, hrest⟩ := h
      have hy : YieldsE P ops (Grw X V) o v a := Or.inl ⟨hwa, fun w' hw' => by
        exact quiet_up (fun w2 ⟨q, hq⟩ => by rw [hq]; exact below_regrown _ _ _) (hv ⟨w', hw'⟩)⟩
      exact anyS_first h0 (Region.noSelect_spec hsel) (fun c a w => hQ c a _ _ w) _ listed a (Ext W) (kept_grw hV) (Region.free_spec h0 hf) hr' hy (takeC_list hsel hQ l (k + 1) _ _ hl' hB' hrest hV)
    · simp only [hwa] at h
      have hy : YieldsE P ops (Grw X V) o undef a := Or.inr ⟨by simpa using hwa, rfl⟩
      exact anyS_first h0 (Region.noSelect_spec hsel) (fun c a w => hQ c a _ _ w) _ listed a (Ext W) (kept_grw hV) (Region.free_spec h0 hf) hr' hy (takeC_list hsel hQ l (k + 1) _ _ hl' hB' h hV)

/-- n operations from number k on are taken first. -/
theorem anyK_take {l : List Oper} {X : Nat → Prop} {V W : World} {listed : Array Bool} {a : Act} (k n f : Nat) {m : Nat} (hm : n + f = m) (hn : k + n ≤ l.length) (hB : (Region.noSelect l.toArray && takeB md l.toArray n k listed) = true) (hQ : ∀ c a d v w, Q (.panic c) (a.put d v) w → Q (.panic c) a w)
    (h : headC P l.toArray X V (fun a' => anyK P md l.toArray Q X V f (setB n k listed) a' W) ((l.drop k).take n) a) : anyK P md l.toArray Q X V m listed a W := by
  rw [Bool.and_eq_true] at hB
  have hl : ((l.drop k).take n).length = n := by simp; omega
  subst hm
  have := takeC_list (md := md) (P := P) (Q := Q) (X := X) (V := V) (W := W) (f := f) hB.1 hQ ((l.drop k).take n) k listed a (fun j hj => by
    rw [hl] at hj
    simp [hj, List.getElem?_drop]) (by rw [hl]; exact hB.2) (by rw [hl]; exact h)
  rwa [hl] at this

/-- One of those that may come up. -/
def stepK (P : Program) (md : Region.Mode) (ops : Array Oper) (Q : Exit → Act → World → Prop) (X : Nat → Prop) (V : World) (f : Nat) (listed : Array Bool) (i : Nat) (a : Act) (W : World) : Prop :=
  ∀ w, Ext W w → wpOp P ops Q i (fun a' w' => Grw X V w' ∧ anyK P md ops Q X V f (listed.setIfInBounds i true) a' w') a w

theorem anyK_all {X : Nat → Prop} {V W : World} {listed : Array Bool} {a : Act} {f : Nat} (rs : List Nat) (hr : Region.ready md ops listed = rs) (hne : rs ≠ []) (h : ∀ i ∈ rs, stepK P md ops Q X V f listed i a W) : anyK P md ops Q X V (f + 1) listed a W := by
  intro hV
  refine ⟨fun e => absurd (hr ▸ e) hne, fun i hi w hw => wpOp_mono ?_ (h i (hr ▸ hi) w hw)⟩
  rintro a' w' ⟨hx, hk⟩
  exact ⟨Ext w', kept_grw hx, Ext.refl _, hk hx⟩

theorem anyK_done {X : Nat → Prop} {V W : World} {listed : Array Bool} {a : Act} (hr : Region.ready md ops listed = []) (h : ∀ w, Ext W w → Q .normal a w) : ∀ f, anyK P md ops Q X V f listed a W
  | 0 => fun _ => ⟨hr, h⟩
  | _ + 1 => fun _ => ⟨fun _ => h, by rw [hr]; simp⟩

theorem anyK_one {X : Nat → Prop} {V W : World} {listed : Array Bool} {a : Act} {f : Nat} (i : Nat) (hr : Region.ready md ops listed = [i]) (h : stepK P md ops Q X V f listed i a W) : anyK P md ops Q X V (f + 1) listed a W :=
  anyK_all [i] hr (by simp) (fun j hj => by rw [List.mem_singleton.1 hj]; exact h)

theorem anyK_two {X : Nat → Prop} {V W : World} {listed : Array Bool} {a : Act} {f : Nat} (i j : Nat) (hr : Region.ready md ops listed = [i, j]) (h : stepK P md ops Q X V f listed i a W) (k : stepK P md ops Q X V f listed j a W) : anyK P md ops Q X V (f + 1) listed a W :=
  anyK_all [i, j] hr (by simp) (fun l hl => by
    rcases List.mem_cons.1 hl with rfl | hl
    · exact h
    · rw [List.mem_singleton.1 hl]; exact k)

/-- The step itself: the operation is run. -/
theorem stepK_run {X : Nat → Prop} {V W : World} {listed : Array Bool} {a : Act} {f i : Nat} {o : Oper} (hi : ops[i]? = some o)
    (h : ∀ w, Ext W w → ∀ K : Act → World → Prop, (∀ a' w', Grw X V w' → anyK P md ops Q X V f (listed.setIfInBounds i true) a' w' → K a' w') → if Region.wanted o (yielded ops a.tmps) then o.wp P a w K Q else K (a.put o.dst undef) w) : stepK P md ops Q X V f listed i a W := by
  intro w hw
  have k := h w hw (fun a' w' => Grw X V w' ∧ anyK P md ops Q X V f (listed.setIfInBounds i true) a' w') (fun a' w' hx hr => ⟨hx, hr⟩)
  unfold wpOp
  rw [hi]
  by_cases hwa : Region.wanted o (yielded ops a.tmps) = true
  · simp only [hwa, if_true] at k ⊢
    exact Or.inl k
  · simp only [hwa] at k ⊢
    exact k

end
end

section
set_option linter.unusedVariables false
open Go Go.Sort Go.RowKit

/-- Block C holds these, and is not frozen. -/
def Blk (w : World) (C : Nat) (vs : List Value) : Prop := ∀ i v, vs[i]? = some v → w.cell? ⟨C, i, none⟩ = some v ∧ w.frozen? ⟨C, i, none⟩ = false

theorem Blk.below {w w' : World} {C : Nat} {vs : List Value} (h : Blk w C vs) {S : Nat} (hb : Below S w w') (hC : C < S) : Blk w' C vs := fun i v hi =>
  ⟨(hb.cell (p := ⟨C, i, none⟩) hC).trans (h i v hi).1, (hb.frozen (p := ⟨C, i, none⟩) hC).trans (h i v hi).2⟩

theorem Blk.ext {w w' : World} {C : Nat} {vs : List Value} (h : Blk w C vs) (e : Ext w w') (hC : C < w.heap.size) : Blk w' C vs := h.below e hC

theorem Blk.alloc (w : World) (vs : List Value) (t : TypeId) : Blk (w.alloc (.cells vs.toArray t)) w.heap.size vs := fun i v hi => by
  constructor
  · simp [go_sem, hi]
  · simp [go_sem]

/-- These are stored, from place i on. -/
def putL (C : Nat) : Nat → List Value → World → World
  | _, [], w => w
  | i, v :: vs, w => putL C (i + 1) vs (w.setCell ⟨C, i, none⟩ v)

theorem size_putL (C : Nat) : ∀ (vs : List Value) (i : Nat) (w : World), (putL C i vs w).heap.size = w.heap.size
  | [], _, _ => rfl
  | v :: vs, i, w => by rw [putL, size_putL C vs]; simp [World.setCell]

theorem frozen_putL (C : Nat) (q : Addr) : ∀ (vs : List Value) (i : Nat) (w : World), (putL C i vs w).frozen? q = w.frozen? q
  | [], _, _ => rfl
  | v :: vs, i, w => by rw [putL, frozen_putL C q vs]; simp

theorem cell_putL_other (C : Nat) (q : Addr) : ∀ (vs : List Value) (i : Nat) (w : World), (q.block = C → q.off < i) → (putL C i vs w).cell? q = w.cell? q
  | [], _, _, _ => rfl
  | v :: vs, i, w, h => by
    rw [putL, cell_putL_other C q vs (i + 1) _ (fun e => Nat.lt_succ_of_lt (h e))]
    refine World.cell?_setCell_other _ _ _ _ ?_
    rintro rfl
    exact absurd (h rfl) (Nat.lt_irrefl _)

theorem below_putL {S C : Nat} {a : World} (hC : S ≤ C) : ∀ (vs : List Value) (i : Nat) (w : World), Below S a w → Below S a (putL C i vs w)
  | [], _, _, h => h
  | v :: vs, i, w, h => below_putL hC vs (i + 1) _ (h.setCell (p := ⟨C, i, none⟩) hC _)

theorem cell_putL (C : Nat) : ∀ (vs : List Value) (i : Nat) (w : World), (∀ j, j < vs.length → (w.cell? ⟨C, i + j, none⟩).isSome) → ∀ j v, vs[j]? = some v → (putL C i vs w).cell? ⟨C, i + j, none⟩ = some v
  | [], _, _, _, j, v, h => by simp at h
  | x :: vs, i, w, hw, j, v, h => by
    rw [putL]
    cases j with
    | zero =>
      rw [cell_putL_other C _ vs (i + 1) _ (fun _ => by simp)]
      obtain ⟨y, hy⟩ := Option.isSome_iff_exists.1 (hw 0 (by simp))
      simp at h
      subst h
      exact World.cell?_setCell_same _ _ _ hy
    | succ j =>
      have := cell_putL C vs (i + 1) (w.setCell ⟨C, i, none⟩ x) (fun k hk => by
        rw [World.cell?_setCell_other _ _ _ _ (by simp <;> omega)]
        have := hw (k + 1) (by simp; omega)
        rwa [show i + (k + 1) = i + 1 + k by omega] at this) j v (by simpa using h)
      rwa [show i + 1 + j = i + (j + 1) by omega] at this

theorem Blk.put {w : World} {C : Nat} {us : List Value} (h : Blk w C us) (vs : List Value) (hl : vs.length = us.length) : Blk (putL C 0 vs w) C vs := fun i v hi => by
  have hi' : i < us.length := by rw [← hl]; exact (List.getElem?_eq_some_iff.1 hi).1
  constructor
  · have := cell_putL C vs 0 w (fun j hj => by
      rw [hl] at hj
      rw [Nat.zero_add, (h j _ (List.getElem?_eq_getElem hj)).1]; rfl) i v hi
    rwa [Nat.zero_add] at this
  · rw [frozen_putL]
    exact (h i _ (List.getElem?_eq_getElem hi')).2

theorem Blk.put_other {w : World} {C D : Nat} {us : List Value} (h : Blk w D us) (vs : List Value) (hne : D ≠ C) : Blk (putL C 0 vs w) D us := fun i v hi =>
  ⟨(cell_putL_other C _ vs 0 w (fun e => absurd e hne)).trans (h i v hi).1, (frozen_putL C _ vs 0 w).trans (h i v hi).2⟩

theorem Ext.putL {a w : World} (h : Ext a w) {C : Nat} (hC : a.heap.size ≤ C) (vs : List Value) : Ext a (putL C 0 vs w) := below_putL hC vs 0 w h

theorem Ext.alloc (w : World) (o : Obj) : Ext w (w.alloc o) := (Below.refl _ _).alloc (Nat.le_refl _) _

theorem Calls.re_of {P : Program} {f : FuncId} {args : Array Value} {w : World} {v : Value} (h : Calls P f args w fun e w' => e = .returned v ∧ Ext w w') : Calls P f args w fun e w'' => e = .returned v ∧ ∃ q : Regrown, w'' = grow (redrawn w q.d) q.os :=
  h.mono fun e w' k => ⟨k.1, by obtain ⟨p, hp⟩ := regrown_of_below k.2; exact ⟨p, hp⟩⟩

theorem box1 (w : World) (l1 : List Value) (t1 : TypeId) {w1 : World} (h : Ext (w.alloc (.cells l1.toArray t1)) w1) : Blk w1 w.heap.size l1 ∧ Ext w w1 ∧ w.heap.size + 1 ≤ w1.heap.size :=
  ⟨(Blk.alloc w l1 t1).ext h (by simp), (Ext.alloc _ _).trans h, by have := Below.size h; simpa using this⟩

theorem box2 (w : World) (l1 l2 : List Value) (t1 t2 : TypeId) {w1 : World} (h : Ext ((w.alloc (.cells l1.toArray t1)).alloc (.cells l2.toArray t2)) w1) : Blk w1 w.heap.size l1 ∧ Blk w1 (w.heap.size + 1) l2 ∧ Ext w w1 ∧ w.heap.size + 2 ≤ w1.heap.size := by
  obtain ⟨a, b, c⟩ := box1 _ _ _ h
  obtain ⟨d, e, f⟩ := box1 w l1 t1 b
  rw [World.size_alloc] at a c
  exact ⟨d, a, e, c⟩

theorem box3 (w : World) (l1 l2 l3 : List Value) (t1 t2 t3 : TypeId) {w1 : World} (h : Ext (((w.alloc (.cells l1.toArray t1)).alloc (.cells l2.toArray t2)).alloc (.cells l3.toArray t3)) w1) : Blk w1 w.heap.size l1 ∧ Blk w1 (w.heap.size + 1) l2 ∧ Blk w1 (w.heap.size + 1 + 1) l3 ∧ Ext w w1 ∧ w.heap.size + 3 ≤ w1.heap.size := by
  obtain ⟨a, b, c⟩ := box1 _ _ _ h
  obtain ⟨d, e, f, g⟩ := box2 w l1 l2 t1 t2 b
  simp only [World.size_alloc] at a c
  exact ⟨d, e, a, f, c⟩

theorem box4 (w : World) (l1 l2 l3 l4 : List Value) (t1 t2 t3 t4 : TypeId) {w1 : World} (h : Ext ((((w.alloc (.cells l1.toArray t1)).alloc (.cells l2.toArray t2)).alloc (.cells l3.toArray t3)).alloc (.cells l4.toArray t4)) w1) : Blk w1 w.heap.size l1 ∧ Blk w1 (w.heap.size + 1) l2 ∧ Blk w1 (w.heap.size + 1 + 1) l3 ∧ Blk w1 (w.heap.size + 1 + 1 + 1) l4 ∧ Ext w w1 ∧ w.heap.size + 4 ≤ w1.heap.size := by
  obtain ⟨a, b, c⟩ := box1 _ _ _ h
  obtain ⟨d, e, f, g, i⟩ := box3 w l1 l2 l3 t1 t2 t3 b
  simp only [World.size_alloc] at a c
  exact ⟨d, e, f, a, g, c⟩

theorem box5 (w : World) (l1 l2 l3 l4 l5 : List Value) (t1 t2 t3 t4 t5 : TypeId) {w1 : World} (h : Ext (((((w.alloc (.cells l1.toArray t1)).alloc (.cells l2.toArray t2)).alloc (.cells l3.toArray t3)).alloc (.cells l4.toArray t4)).alloc (.cells l5.toArray t5)) w1) : Blk w1 w.heap.size l1 ∧ Blk w1 (w.heap.size + 1) l2 ∧ Blk w1 (w.heap.size + 1 + 1) l3 ∧ Blk w1 (w.heap.size + 1 + 1 + 1) l4 ∧ Blk w1 (w.heap.size + 1 + 1 + 1 + 1) l5 ∧ Ext w w1 ∧ w.heap.size + 5 ≤ w1.heap.size := by
  obtain ⟨a, b, c⟩ := box1 _ _ _ h
  obtain ⟨d, e, f, g, i, j⟩ := box4 w l1 l2 l3 l4 t1 t2 t3 t4 b
  simp only [World.size_alloc] at a c
  exact ⟨d, e, f, g, a, i, c⟩

theorem Grw.putL {X : Nat → Prop} {V : World} {C : Nat} (hx : X C) : ∀ (vs : List Value) (i : Nat) (w : World), Grw X V w → Grw X V (putL C i vs w)
  | [], _, _, h => h
  | v :: vs, i, w, h => Grw.putL hx vs (i + 1) _ (h.trans (Grw.of_touch ((Touch.refl C w).set i v) hx))

theorem two_alloc {V w2 w3 w4 : World} {z z' : List Value} {t t' : TypeId} (h2 : Ext V w2) (h3 : Ext (w2.alloc (.cells z.toArray t)) w3) (h4 : Ext (w3.alloc (.cells z'.toArray t')) w4) :
    Blk w4 w2.heap.size z ∧ Blk w4 w3.heap.size z' ∧ Ext V w4 ∧ V.heap.size ≤ w2.heap.size ∧ V.heap.size ≤ w3.heap.size ∧ w2.heap.size ≠ w3.heap.size ∧ w2.heap.size < w4.heap.size ∧ w3.heap.size < w4.heap.size := by
  obtain ⟨a, b, c⟩ := box1 _ _ _ h3
  obtain ⟨d, e, f⟩ := box1 _ _ _ h4
  have := Below.size h2
  have s3 := Below.size h3
  simp at s3
  exact ⟨a.ext e (by omega), d, (h2.trans b).trans e, this, by omega, by omega, by have := Below.size e; omega, by omega⟩

theorem two_put {V w4 w5 w6 : World} {S T : Nat} {z u v : List Value} (lu : u.length = z.length) (lv : v.length = z.length) (BS : Blk w4 S z) (BT : Blk w4 T z) (hV : Ext V w4) (lS : V.heap.size ≤ S) (lT : V.heap.size ≤ T) (ne : S ≠ T) (sS : S < w4.heap.size) (sT : T < w4.heap.size)
    (h5 : Ext (putL S 0 u w4) w5) (h6 : Ext (putL T 0 v w5) w6) : Blk w6 S u ∧ Blk w6 T v ∧ Ext V w6 ∧ S < w6.heap.size ∧ T < w6.heap.size := by
  have s5 := Below.size h5
  have s6 := Below.size h6
  rw [size_putL] at s5 s6
  have x5 : Ext V w5 := (hV.putL lS u).trans h5
  refine ⟨((((BS.put u lu).ext h5 (by rw [size_putL]; exact sS))).put_other v ne).ext h6 (by rw [size_putL]; omega), (((BT.put_other u ne.symm).ext h5 (by rw [size_putL]; exact sT)).put v lv).ext h6 (by rw [size_putL]; omega), (x5.putL lT v).trans h6, by omega, by omega⟩
end

section
set_option linter.unusedVariables false
open Go.RowKit

theorem Tryz.info3 : (Tryz.prog.info? 3).map (fun i => (i.zero, i.size, i.bytes)) = some (some (.int .i64 0), 1, 8) := by kernel_rfl

/-- What toIntS has done behind k rounds: a new row, its first k places filled. -/
structure Copying (w wr : World) (n k : Nat) (f : Nat → Int) : Prop where
  below : Below w.heap.size w wr
  size : wr.heap.size = w.heap.size + 1
  row : wr.rowIs w.heap.size 3 n (fun j => .int .i64 (if j < k then f j else 0))

theorem copying_start (w : World) (n : Nat) (f : Nat → Int) : Copying w (w.alloc (.cells (madeCells #[.int .i64 0] n) 3)) n 0 f :=
  ⟨(Below.refl _ _).alloc (Nat.le_refl _) _, by simp, (World.rowIs_made w _ n 3).congr (fun j _ => by simp)⟩

theorem copying_step {w wr : World} {n k : Nat} {f : Nat → Int} (h : Copying w wr n k f) : Copying w (wr.setCell ⟨w.heap.size, k, none⟩ (.int .i64 (f k))) n (k + 1) f := by
  refine ⟨h.below.setCell (Nat.le_refl _) _, by simp [World.setCell, h.size], (h.row.set k _).congr (fun j _ => ?_)⟩
  by_cases e : j = k
  · subst e; simp
  · rw [if_neg e]
    by_cases hlt : j < k
    · rw [if_pos hlt, if_pos (by omega)]
    · rw [if_neg hlt, if_neg (by omega)]

theorem copying_step' {w wr : World} {n k : Nat} {f : Nat → Int} {v : Int} (h : Copying w wr n k f) (hv : v = f k) : Copying w (wr.setCell ⟨w.heap.size, k, none⟩ (.int .i64 v)) n (k + 1) f := by
  rw [hv]; exact copying_step h

set_option maxHeartbeats 400000 in
theorem toIntS_any (a : Option Addr) (b off n cap : Nat) (f : Nat → Int) (w : World) (hs : Seg w a b off n f) (hn : n ≤ 1048576) :
    Calls Tryz.prog 58 #[.slice a n cap] w fun e w' => e = .returned (.slice (some ⟨w.heap.size, 0, none⟩) n n) ∧ w'.heap.size = w.heap.size + 1 ∧ w'.rowIs w.heap.size 3 n (fun j => .int .i64 (f j)) ∧ Below w.heap.size w w' := by
  have hmk := run_make_row' (P := Tryz.prog) 23 3 (.int .i64 0) 8 Tryz.underlying23 Tryz.info3 rfl .i64 .i64 n (by omega) (by omega)
  go_enter Tryz.func58, Tryz.ntmps58
  go_wp2
  clear hmk
  go_loopw [4] (fun i wr => ∃ k : Nat, k ≤ n ∧ i = .int .i64 k ∧ Copying w wr n k f) (fun i _ => n - (intOf i).toNat)
  case atStart => exact ⟨0, Nat.zero_le _, rfl, copying_start w n f⟩
  case round =>
    obtain ⟨k, hk, rfl, hI⟩ := hrel
    by_cases hlt : k < n
    · obtain rfl := hs.at' (by omega)
      have hc : wr.cell? ⟨b, off + k, none⟩ = some (.int .i64 (f k)) := (hI.below.cell (p := ⟨b, off + k, none⟩) (hs.lt (by omega))).trans (hs.cell k hlt)
      have hd : wr.cell? ⟨w.heap.size, k, none⟩ = some (.int .i64 0) := by simpa using hI.row.cell hlt
      have hf : wr.frozen? ⟨w.heap.size, k, none⟩ = false := hI.row.frozen k
      have hkn : (k : Int) < (n : Int) := by omega
      go_wp2
      go_roundw
      case rel => exact ⟨k + 1, by omega, by go_num, copying_step hI⟩
      case measure => simp [intOf]; omega
    · obtain rfl : k = n := by omega
      go_wp2
      go_ret
      exact ⟨rfl, hI.size, hI.row.congr (fun j hj => by rw [if_pos hj]), hI.below⟩

/-- Two lists of n ints are alike in the first n places. -/
def alike (f g : Nat → Int) : Nat → Bool
  | 0 => true
  | n + 1 => alike f g n && f n == g n

theorem alike_iff (f g : Nat → Int) (n : Nat) : alike f g n = true ↔ ∀ i, i < n → f i = g i := by
  induction n with
  | zero => simp [alike]
  | succ n ih =>
    simp only [alike, Bool.and_eq_true, ih, beq_iff_eq]
    constructor
    · rintro ⟨h, h0⟩ i hi
      by_cases e : i = n
      · subst e; exact h0
      · exact h i (by omega)
    · intro h
      exact ⟨fun i hi => h i (by omega), h n (by omega)⟩

theorem alike_false {f g : Nat → Int} {n k : Nat} (hk : k < n) (h : f k ≠ g k) : alike f g n = false := by
  cases e : alike f g n with
  | false => rfl
  | true => exact absurd ((alike_iff f g n).1 e k hk) h

set_option maxHeartbeats 400000 in
theorem eqIntS_any (a : Option Addr) (b off n cap : Nat) (f : Nat → Int) (a2 : Option Addr) (b2 off2 n2 cap2 : Nat) (g : Nat → Int) (w : World) (hs : Seg w a b off n f) (hs2 : Seg w a2 b2 off2 n2 g) (hn : n ≤ 1048576) :
    Calls Tryz.prog 78 #[.slice a n cap, .slice a2 n2 cap2] w fun e w' => e = .returned (.bool (n == n2 && alike f g n)) ∧ ∃ q, w' = w.drewN q := by
  by_cases hne : n = n2
  · subst hne
    go_enter Tryz.func78, Tryz.ntmps78
    go_wp2
    go_loopw [5] (fun i wr => ∃ k : Nat, k ≤ n ∧ i = .int .i64 k ∧ (∀ j, j < k → f j = g j) ∧ ∃ q, wr = w.drewN q) (fun i _ => n - (intOf i).toNat)
    case atStart => exact ⟨0, Nat.zero_le _, rfl, fun j hj => absurd hj (Nat.not_lt_zero _), 0, rfl⟩
    case round =>
      obtain ⟨k, hk, rfl, hd, q, rfl⟩ := hrel
      by_cases hlt : k < n
      · obtain rfl := hs.at' (by omega)
        obtain rfl := hs2.at' (by omega)
        have hc := hs.cell k hlt
        have hc2 := hs2.cell k hlt
        have hkn : (k : Int) < (n : Int) := by omega
        by_cases he : f k = g k
        · have hb : (f k != g k) = false := by simp [he]
          go_wp2
          go_quiet (fail)
          go_wp2
          go_roundw
          case rel => exact ⟨k + 1, by omega, by go_num, fun j hj => by
                        by_cases e : j = k
                        · subst e; exact he
                        · exact hd j (by omega), _, rfl⟩
          case measure => simp [intOf]; omega
        · have hb : (f k != g k) = true := by simp [he]
          go_wp2
          go_quiet (fail)
          go_wp2
          go_ret
          exact ⟨ret_bool (by simp [alike_false hlt he]), _, World.drewN_drewN ..⟩
      · obtain rfl : k = n := by omega
        go_wp2
        go_ret
        exact ⟨ret_bool (by simp [(alike_iff f g k).2 hd]), q, rfl⟩
  · have hb : ((n : Int) != (n2 : Int)) = true := by simp; omega
    go_enter Tryz.func78, Tryz.ntmps78
    go_wp2
    go_ret
    exact ⟨ret_bool (by simp [hne]), 0, rfl⟩

theorem alike_refl (n : Nat) (f : Nat → Int) : (n == n && alike f f n) = true := by simp [(alike_iff f f n).2 (fun _ _ => rfl)]
end

section
set_option linter.unusedVariables false
open Go.RowKit

/-- A slice of n byts that leads to block b, place off: its i-th element is f i. -/
structure BSeg (w : World) (a : Option Addr) (b off n : Nat) (f : Nat → Int) : Prop where
  at' : 0 < n → a = some ⟨b, off, none⟩
  cell : ∀ i, i < n → w.cell? ⟨b, off + i, none⟩ = some (.int .u8 (f i))

theorem BSeg.lt {w : World} {a : Option Addr} {b off n : Nat} {f : Nat → Int} (h : BSeg w a b off n f) (hn : 0 < n) : b < w.heap.size :=
  World.block_lt_of_cell? _ _ (h.cell 0 hn)

/-- What lies below B is read in a later world as before. -/
theorem BSeg.below {w w' : World} {a : Option Addr} {b off n : Nat} {f : Nat → Int} (h : BSeg w a b off n f) {B : Nat} (hb : Below B w w') (hB : 0 < n → b < B) : BSeg w' a b off n f :=
  ⟨h.at', fun i hi => (hb.cell (p := ⟨b, off + i, none⟩) (hB (by omega))).trans (h.cell i hi)⟩

/-- The whole heap is as it was. -/
theorem BSeg.of_all {w w' : World} {a : Option Addr} {b off n : Nat} {f : Nat → Int} (h : BSeg w a b off n f) (hb : Below w.heap.size w w') : BSeg w' a b off n f :=
  h.below hb (fun hn => h.lt hn)

theorem BSeg.congr {w : World} {a : Option Addr} {b off n : Nat} {f g : Nat → Int} (h : BSeg w a b off n f) (hg : ∀ i, i < n → f i = g i) : BSeg w a b off n g :=
  ⟨h.at', fun i hi => by rw [h.cell i hi, hg i hi]⟩

/-- A row of the call's own, read as a slice. -/
theorem BSeg.of_row {w : World} {b n : Nat} {t : TypeId} {m : Nat} {f : Nat → Int} (h : w.rowIs b t m (fun j => .int .u8 (f j))) (hn : n ≤ m) : BSeg w (some ⟨b, 0, none⟩) b 0 n f :=
  ⟨fun _ => rfl, fun i hi => by rw [Nat.zero_add]; exact h.cell (by omega)⟩

/-- A slice whose cells are not frozen: it may be written. -/
structure BOwn (w : World) (a : Option Addr) (g off n : Nat) (f : Nat → Int) : Prop extends BSeg w a g off n f where
  free : ∀ i, i < n → w.frozen? ⟨g, off + i, none⟩ = false

theorem BOwn.nil (w : World) (a : Option Addr) (g off : Nat) (f : Nat → Int) : BOwn w a g off 0 f :=
  ⟨⟨fun h => absurd h (Nat.lt_irrefl _), fun i hi => absurd hi (Nat.not_lt_zero _)⟩, fun i hi => absurd hi (Nat.not_lt_zero _)⟩

theorem BOwn.of_row {w : World} {b n : Nat} {t : TypeId} {m : Nat} {f : Nat → Int} (h : w.rowIs b t m (fun j => .int .u8 (f j))) (hn : n ≤ m) : BOwn w (some ⟨b, 0, none⟩) b 0 n f :=
  ⟨BSeg.of_row h hn, fun i _ => h.frozen _⟩

theorem BOwn.congr {w : World} {a : Option Addr} {g off n : Nat} {f f' : Nat → Int} (h : BOwn w a g off n f) (e : ∀ i, i < n → f i = f' i) : BOwn w a g off n f' :=
  ⟨h.toBSeg.congr e, h.free⟩

theorem BOwn.below {w w' : World} {a : Option Addr} {g off n : Nat} {f : Nat → Int} (h : BOwn w a g off n f) {B : Nat} (hb : Below B w w') (hB : 0 < n → g < B) : BOwn w' a g off n f :=
  ⟨h.toBSeg.below hb hB, fun i hi => (hb.frozen (p := ⟨g, off + i, none⟩) (hB (by omega))).trans (h.free i hi)⟩

theorem BOwn.of_all {w w' : World} {a : Option Addr} {g off n : Nat} {f : Nat → Int} (h : BOwn w a g off n f) (hb : Below w.heap.size w w') : BOwn w' a g off n f :=
  h.below hb (fun hn => h.lt hn)

theorem BOwn.set {w : World} {a : Option Addr} {g off n : Nat} {f : Nat → Int} (h : BOwn w a g off n f) {k : Nat} (hk : k < n) (x : Int) :
    BOwn (w.setCell ⟨g, off + k, none⟩ (.int .u8 x)) a g off n (fun j => if j = k then x else f j) := by
  refine ⟨⟨h.at', fun i hi => ?_⟩, fun i hi => by rw [World.frozen?_setCell]; exact h.free i hi⟩
  by_cases e : i = k
  · subst e
    rw [World.cell?_setCell_same _ _ _ (h.cell i hi)]
    simp
  · rw [World.cell?_setCell_other _ _ _ _ (fun h => by have := congrArg Addr.off h; simp at this; omega), h.cell i hi]
    simp [e]

/-- A cut of a slice. -/
theorem BSeg.cut {w : World} {a : Option Addr} {b off n : Nat} {f : Nat → Int} (h : BSeg w a b off n f) {m : Nat} (hm : m ≤ n) : BSeg w a b off m f :=
  ⟨fun h0 => h.at' (by omega), fun i hi => h.cell i (by omega)⟩

theorem BOwn.cut {w : World} {a : Option Addr} {b off n : Nat} {f : Nat → Int} (h : BOwn w a b off n f) {m : Nat} (hm : m ≤ n) : BOwn w a b off m f :=
  ⟨h.toBSeg.cut hm, fun i hi => h.free i (by omega)⟩

theorem BSeg.touch {w w' : World} {a : Option Addr} {b off n g : Nat} {f : Nat → Int} (h : BSeg w a b off n f) (ht : Touch g w w') (hg : 0 < n → b ≠ g) : BSeg w' a b off n f :=
  ⟨h.at', fun i hi => (World.cell?_of_block (a := ⟨b, off + i, none⟩) (ht.grown.block b (h.lt (by omega)) (by simp; exact hg (by omega)))).trans (h.cell i hi)⟩

theorem BOwn.touch {w w' : World} {a : Option Addr} {b off n g : Nat} {f : Nat → Int} (h : BOwn w a b off n f) (ht : Touch g w w') (hg : 0 < n → b ≠ g) : BOwn w' a b off n f :=
  ⟨h.toBSeg.touch ht hg, fun i hi => (World.frozen?_of_block (a := ⟨b, off + i, none⟩) (ht.grown.block b (h.lt (by omega)) (by simp; exact hg (by omega)))).trans (h.free i hi)⟩

/-- The first n byts, as cells. -/
def byts (f : Nat → Int) (n : Nat) : List Value := (List.range n).map (fun i => .int .u8 (f i))

theorem byts_length (f : Nat → Int) (n : Nat) : (byts f n).length = n := by simp [byts]

theorem byts_succ (f : Nat → Int) (n : Nat) : byts f (n + 1) = byts f n ++ [.int .u8 (f n)] := by simp [byts, List.range_succ]

/-- What appends have gathered is a slice of the call's own. -/
theorem bown_of_owns {w : World} {base : Nat} {e : TypeId} {v : Value} {n : Nat} {f : Nat → Int} (h : w.ownsRow base e 1 v n (byts f n)) :
    ∃ a g cap, v = .slice a n cap ∧ base ≤ g ∧ BOwn w a g 0 n f := by
  rcases h.2 with ⟨rfl, rfl⟩ | ⟨g, cap, cur, rfl, hg, hb, hn, hm, hs, ht⟩
  · exact ⟨none, base, 0, rfl, Nat.le_refl _, BOwn.nil _ _ _ _ _⟩
  · refine ⟨_, g, cap, rfl, hg, ⟨fun _ => rfl, fun i hi => ?_⟩, fun i hi => by simp [World.frozen?, hb]⟩
    have hx : (cur.toList.take (n * 1))[i]? = some (.int .u8 (f i)) := by rw [ht]; simp [byts, hi]
    rw [List.getElem?_take] at hx
    simp only [Nat.mul_one, hi, if_true] at hx
    simp [World.cell?, hb]
    simpa using hx
end

section
set_option linter.unusedVariables false
open Go.RowKit

theorem Tryz.info5 : (Tryz.prog.info? 5).map (fun i => (i.zero, i.size, i.bytes)) = some (some (.int .u8 0), 1, 1) := by kernel_rfl

/-- What toByteS has done behind k rounds: a new row, its first k places filled. -/
structure BCopying (w wr : World) (n k : Nat) (f : Nat → Int) : Prop where
  below : Below w.heap.size w wr
  size : wr.heap.size = w.heap.size + 1
  row : wr.rowIs w.heap.size 5 n (fun j => .int .u8 (if j < k then f j else 0))

theorem bcopying_start (w : World) (n : Nat) (f : Nat → Int) : BCopying w (w.alloc (.cells (madeCells #[.int .u8 0] n) 5)) n 0 f :=
  ⟨(Below.refl _ _).alloc (Nat.le_refl _) _, by simp, (World.rowIs_made w _ n 5).congr (fun j _ => by simp)⟩

theorem bcopying_step {w wr : World} {n k : Nat} {f : Nat → Int} (h : BCopying w wr n k f) : BCopying w (wr.setCell ⟨w.heap.size, k, none⟩ (.int .u8 (f k))) n (k + 1) f := by
  refine ⟨h.below.setCell (Nat.le_refl _) _, by simp [World.setCell, h.size], (h.row.set k _).congr (fun j _ => ?_)⟩
  by_cases e : j = k
  · subst e; simp
  · rw [if_neg e]
    by_cases hlt : j < k
    · rw [if_pos hlt, if_pos (by omega)]
    · rw [if_neg hlt, if_neg (by omega)]

theorem bcopying_step' {w wr : World} {n k : Nat} {f : Nat → Int} {v : Int} (h : BCopying w wr n k f) (hv : v = f k) : BCopying w (wr.setCell ⟨w.heap.size, k, none⟩ (.int .u8 v)) n (k + 1) f := by
  rw [hv]; exact bcopying_step h

set_option maxHeartbeats 400000 in
theorem toByteS_any (a : Option Addr) (b off n cap : Nat) (f : Nat → Int) (w : World) (hs : BSeg w a b off n f) (hn : n ≤ 1048576) :
    Calls Tryz.prog 30 #[.slice a n cap] w fun e w' => e = .returned (.slice (some ⟨w.heap.size, 0, none⟩) n n) ∧ w'.heap.size = w.heap.size + 1 ∧ w'.rowIs w.heap.size 5 n (fun j => .int .u8 (f j)) ∧ Below w.heap.size w w' := by
  have hmk := run_make_row' (P := Tryz.prog) 37 5 (.int .u8 0) 1 Tryz.underlying37 Tryz.info5 rfl .i64 .i64 n (by omega) (by omega)
  go_enter Tryz.func30, Tryz.ntmps30
  go_wp2
  clear hmk
  go_loopw [4] (fun i wr => ∃ k : Nat, k ≤ n ∧ i = .int .i64 k ∧ BCopying w wr n k f) (fun i _ => n - (intOf i).toNat)
  case atStart => exact ⟨0, Nat.zero_le _, rfl, bcopying_start w n f⟩
  case round =>
    obtain ⟨k, hk, rfl, hI⟩ := hrel
    by_cases hlt : k < n
    · obtain rfl := hs.at' (by omega)
      have hc : wr.cell? ⟨b, off + k, none⟩ = some (.int .u8 (f k)) := (hI.below.cell (p := ⟨b, off + k, none⟩) (hs.lt (by omega))).trans (hs.cell k hlt)
      have hd : wr.cell? ⟨w.heap.size, k, none⟩ = some (.int .u8 0) := by simpa using hI.row.cell hlt
      have hf : wr.frozen? ⟨w.heap.size, k, none⟩ = false := hI.row.frozen k
      have hkn : (k : Int) < (n : Int) := by omega
      go_wp2
      go_roundw
      case rel => exact ⟨k + 1, by omega, by go_num, bcopying_step hI⟩
      case measure => simp [intOf]; omega
    · obtain rfl : k = n := by omega
      go_wp2
      go_ret
      exact ⟨rfl, hI.size, hI.row.congr (fun j hj => by rw [if_pos hj]), hI.below⟩

set_option maxHeartbeats 400000 in
theorem eqByteS_any (a : Option Addr) (b off n cap : Nat) (f : Nat → Int) (a2 : Option Addr) (b2 off2 n2 cap2 : Nat) (g : Nat → Int) (w : World) (hs : BSeg w a b off n f) (hs2 : BSeg w a2 b2 off2 n2 g) (hn : n ≤ 1048576) :
    Calls Tryz.prog 39 #[.slice a n cap, .slice a2 n2 cap2] w fun e w' => e = .returned (.bool (n == n2 && alike f g n)) ∧ ∃ q, w' = w.drewN q := by
  by_cases hne : n = n2
  · subst hne
    go_enter Tryz.func39, Tryz.ntmps39
    go_wp2
    go_loopw [5] (fun i wr => ∃ k : Nat, k ≤ n ∧ i = .int .i64 k ∧ (∀ j, j < k → f j = g j) ∧ ∃ q, wr = w.drewN q) (fun i _ => n - (intOf i).toNat)
    case atStart => exact ⟨0, Nat.zero_le _, rfl, fun j hj => absurd hj (Nat.not_lt_zero _), 0, rfl⟩
    case round =>
      obtain ⟨k, hk, rfl, hd, q, rfl⟩ := hrel
      by_cases hlt : k < n
      · obtain rfl := hs.at' (by omega)
        obtain rfl := hs2.at' (by omega)
        have hc := hs.cell k hlt
        have hc2 := hs2.cell k hlt
        have hkn : (k : Int) < (n : Int) := by omega
        by_cases he : f k = g k
        · have hb : (f k != g k) = false := by simp [he]
          go_wp2
          go_quiet (fail)
          go_wp2
          go_roundw
          case rel => exact ⟨k + 1, by omega, by go_num, fun j hj => by
                        by_cases e : j = k
                        · subst e; exact he
                        · exact hd j (by omega), _, rfl⟩
          case measure => simp [intOf]; omega
        · have hb : (f k != g k) = true := by simp [he]
          go_wp2
          go_quiet (fail)
          go_wp2
          go_ret
          exact ⟨ret_bool (by simp [alike_false hlt he]), _, World.drewN_drewN ..⟩
      · obtain rfl : k = n := by omega
        go_wp2
        go_ret
        exact ⟨ret_bool (by simp [(alike_iff f g k).2 hd]), q, rfl⟩
  · have hb : ((n : Int) != (n2 : Int)) = true := by simp; omega
    go_enter Tryz.func39, Tryz.ntmps39
    go_wp2
    go_ret
    exact ⟨ret_bool (by simp [hne]), 0, rfl⟩
end

section
set_option linter.unusedVariables false
set_option linter.unusedSimpArgs false
open Go.RowKit

/-- The first m numbers. -/
def nums (F : Nat → Int) (m : Nat) : List Int := (List.range m).map F

theorem conv_seg {w : World} {a : Option Addr} {g o m cap : Nat} {F : Nat → Int} (hs : BSeg w a g o m F) : (convert 37 9 (.slice a m cap)).run Tryz.prog w = .ok (.string (strOfNums (nums F m))) w := by
  by_cases h0 : m = 0
  · subst h0
    have hz : (convert 37 9 (.slice a 0 cap)).run Tryz.prog w = .ok (.string ByteArray.empty) w := by
      rw [run_convert_bytes_string w 37 9 5 _ 0 cap (by kernel_rfl) (by kernel_rfl) (by kernel_rfl)]
      cases a <;> simp [Conv.bytesToString, loadCells]
      all_goals rfl
    exact hz
  · obtain rfl := hs.at' (by omega)
    exact run_convert_bytes_arg w 37 5 (by kernel_rfl) (by kernel_rfl) g o m cap (nums F m) (by simp [nums]) (fun i hi => by
      rw [hs.cell i hi]
      simp [nums, hi]) 9 (by kernel_rfl)

theorem str_eq {f g : Nat → Int} {n m : Nat} (hf : ∀ i, i < n → 0 ≤ f i ∧ f i < 256) (hg : ∀ i, i < m → 0 ≤ g i ∧ g i < 256) : strOfNums (nums f n) = strOfNums (nums g m) ↔ (n == m && alike f g n) = true := by
  constructor
  · intro h
    have hz : n = m := by
      have := congrArg ByteArray.size h
      rw [strOfNums_size, strOfNums_size] at this
      simpa [nums] using this
    subst hz
    have hl := congrArg (fun s : ByteArray => s.data.toList) h
    simp only [strOfNums_data] at hl
    simp only [Bool.and_eq_true, beq_self_eq_true, true_and]
    refine (alike_iff f g n).2 (fun i hi => ?_)
    have h1 := congrArg (fun l : List UInt8 => l[i]?) hl
    simp [nums, hi] at h1
    have h2 := congrArg UInt8.toNat h1
    simp at h2
    have := hf i hi
    have := hg i hi
    omega
  · intro h
    simp only [Bool.and_eq_true, beq_iff_eq] at h
    obtain ⟨rfl, h⟩ := h
    have h := (alike_iff f g n).1 h
    congr 1
    exact List.map_congr_left (fun i hi => h i (List.mem_range.1 hi))
end

section
set_option linter.unusedVariables false
set_option linter.unusedSimpArgs false
open Go.RowKit

theorem byts_one (f : Nat → Int) (n : Nat) : ∀ u ∈ byts f n, u.oneCell' = true := by
  intro u hu
  obtain ⟨i, -, rfl⟩ := List.mem_map.1 hu
  rfl

theorem byts_congr {f g : Nat → Int} {n : Nat} (h : ∀ i, i < n → f i = g i) : byts f n = byts g n := by
  unfold byts
  refine List.map_congr_left (fun i hi => ?_)
  rw [h i (List.mem_range.1 hi)]

/-- One list behind the other. -/
def catF (f : Nat → Int) (n : Nat) (g : Nat → Int) (i : Nat) : Int := if i < n then f i else g (i - n)

theorem byts_append (f : Nat → Int) (n : Nat) (g : Nat → Int) (m : Nat) : byts f n ++ byts g m = byts (catF f n g) (n + m) := by
  induction m with
  | zero => rw [Nat.add_zero, show byts g 0 = [] from rfl, List.append_nil]; exact byts_congr (fun i hi => by rw [catF, if_pos hi])
  | succ m ih =>
    rw [byts_succ, ← List.append_assoc, ih, ← Nat.add_assoc, byts_succ]
    congr 3
    rw [catF, if_neg (by omega)]
    congr 1
    omega

theorem run_append_nothing {P : Program} {w : World} (base : Nat) (t ty e : TypeId) (i : TypeInfo) (size : Nat) (ht : P.underlying t = some (.slice e)) (hi : P.info? e = some i)
    (v : Value) (n c : Nat) (xs : List Value) (hown : w.ownsRow base e size v n xs) :
    (Builtin.append_ #[t, t] ty #[v, .slice none 0 c]).run P w = .ok v w := by
  rcases hown.2 with ⟨rfl, rfl⟩ | ⟨g, cap, cur, rfl, _, _, hnc, _⟩
  · simp [Builtin.append_, run_underlying ht, sizeOf, typeInfo, hi, Builtin.lenOf, Builtin.firstCells]
  · simp [Builtin.append_, run_underlying ht, sizeOf, typeInfo, hi, Builtin.lenOf, Builtin.firstCells, hnc, storeCells]

/-- An append of bytes, whatever slice they are. -/
theorem wp_append_bs {o : Oper} {a0 : Act} {K : Act → World → Prop} {Q : Exit → Act → World → Prop} {w : World} (s x : Operand)
    (ho : o.op = .call { callee := .builtin .append, args := #[s, x], argTypes := #[37, 37] })
    (base : Nat) (v : Value) (n : Nat) (xs : List Value) (hs : a0.eval s = v) (hown : w.ownsRow base 5 1 v n xs)
    (a : Option Addr) (b off m c : Nat) (f : Nat → Int) (hx : a0.eval x = .slice a m c) (hB : BSeg w a b off m f) (hlen : n + m ≤ 1099511627776) (hbase : base ≤ w.heap.size)
    (h : ∀ v' w', w'.ownsRow base 5 1 v' (n + m) (xs ++ byts f m) → Below base w w' → K (a0.put o.dst v') w') : o.wp Tryz.prog a0 w K Q := by
  obtain ⟨i0, hi, hz0, hz1, hz2⟩ := info_parts Tryz.info5
  have hml : n + m ≤ maxLen := by unfold maxLen; omega
  cases a with
  | none =>
    have hm : m = 0 := by
      cases m with
      | zero => rfl
      | succ m => have := hB.at' (Nat.succ_pos _); cases this
    subst hm
    have hr := run_append_nothing (P := Tryz.prog) base 37 o.type 5 i0 1 Tryz.underlying37 hi v n c xs hown
    unfold Oper.wp
    simp [execOp, ho, resolve, invoke, builtin, hs, hx, hr, Result.andThen]
    exact h v w (by rw [show byts f 0 = [] from rfl, List.append_nil]; exact hown) (Below.refl _ _)
  | some ad =>
    refine wp_append_own w s x 37 ho base 5 i0 (.int .u8 0) 1 1 Tryz.underlying37 hi hz0 hz1 hz2 rfl (by decide) v n xs hs hown ad m c (byts f m) hx (by rw [byts_length, Nat.mul_one]) ?_ (byts_one f m) hml (by omega) hbase ?_
    · intro j u hj
      have hjm : j < m := by have := (List.getElem?_eq_some_iff.1 hj).1; rwa [byts_length] at this
      have := hB.at' (by omega)
      obtain rfl := Option.some.inj this
      rw [show (byts f m)[j]? = some (.int .u8 (f j)) by simp [byts, hjm]] at hj
      obtain rfl := Option.some.inj hj
      have e : Addr.add ⟨b, off, none⟩ j = ⟨b, off + j, none⟩ := by
        by_cases h0 : j = 0
        · subst h0; simp [Addr.add]
        · simp [Addr.add, h0]
      rw [e]
      exact hB.cell j hjm
    · intro v' w' h1 h2 h3
      exact h v' w' h1 ((Below.refl base w).grown h2 hbase (fun k hk => (hown.lt k hk).1))

theorem wpList_append_bs {ops : Array Oper} {rest : List Oper} {o : Oper} {a0 : Act} {Q : Exit → Act → World → Prop} {w : World} (hgd : o.guard = none) (s x : Operand)
    (ho : o.op = .call { callee := .builtin .append, args := #[s, x], argTypes := #[37, 37] })
    (base : Nat) (v : Value) (n : Nat) (xs : List Value) (hs : a0.eval s = v) (hown : w.ownsRow base 5 1 v n xs)
    (a : Option Addr) (b off m c : Nat) (f : Nat → Int) (hx : a0.eval x = .slice a m c) (hB : BSeg w a b off m f) (hlen : n + m ≤ 1099511627776) (hbase : base ≤ w.heap.size)
    (h : ∀ v' w', w'.ownsRow base 5 1 v' (n + m) (xs ++ byts f m) → Below base w w' → wpList Tryz.prog ops Q rest (a0.put o.dst v') w') : wpList Tryz.prog ops Q (o :: rest) a0 w :=
  wpList_plain hgd fun K hK => wp_append_bs s x ho base v n xs hs hown a b off m c f hx hB hlen hbase fun v' w' h1 h2 => hK _ _ (h v' w' h1 h2)

/-- A new list of n bytes, with what lies behind it the call's own. -/
def GivesR (w : World) (n : Nat) (f : Nat → Int) (e : Ending) (w' : World) : Prop :=
  ∃ v, e = .returned v ∧ w'.ownsRow w.heap.size 5 1 v n (byts f n) ∧ Ext w w'

theorem owns_congr {w : World} {base : Nat} {v : Value} {n : Nat} {f g : Nat → Int} (h : w.ownsRow base 5 1 v n (byts f n)) (e : ∀ i, i < n → f i = g i) : w.ownsRow base 5 1 v n (byts g n) := by
  rwa [byts_congr e] at h

theorem owns_mono {w : World} {b b' : Nat} {v : Value} {n : Nat} {xs : List Value} (h : w.ownsRow b 5 1 v n xs) (hb : b' ≤ b) : w.ownsRow b' 5 1 v n xs := by
  refine ⟨h.1, ?_⟩
  rcases h.2 with h | ⟨g, cap, cur, hv, hg, hr⟩
  · exact .inl h
  · exact .inr ⟨g, cap, cur, hv, Nat.le_trans hb hg, hr⟩

theorem owns_ext' {w w' : World} {b : Nat} {v : Value} {n : Nat} {xs : List Value} (h : w.ownsRow b 5 1 v n xs) (he : Ext w w') : w'.ownsRow b 5 1 v n xs := by
  refine ⟨h.1, ?_⟩
  rcases h.2 with h | ⟨g, cap, cur, hv, hg, hr, hr'⟩
  · exact .inl h
  · refine .inr ⟨g, cap, cur, hv, hg, ?_, hr'⟩
    have hlt : g < w.heap.size := by
      have := (Array.getElem?_eq_some_iff.1 hr).1
      exact this
    rw [Below.block he g hlt]; exact hr

/-- Its value is a slice, read as the bytes. -/
theorem owns_seg {w : World} {base : Nat} {v : Value} {n : Nat} {f : Nat → Int} (h : w.ownsRow base 5 1 v n (byts f n)) : ∃ a g cap, v = .slice a n cap ∧ base ≤ g ∧ n ≤ cap ∧ cap ≤ 9223372036854775807 ∧ BOwn w a g 0 n f := by
  have h' := h
  rcases h.2 with ⟨rfl, rfl⟩ | ⟨g, cap, cur, rfl, hg, hb, hn, hm, hs, ht⟩
  · exact ⟨none, base, 0, rfl, Nat.le_refl _, Nat.le_refl _, by omega, BOwn.nil _ _ _ _ _⟩
  · obtain ⟨a, g', cap', hv', hg', hO⟩ := bown_of_owns h'
    simp only [Value.slice.injEq] at hv'
    obtain ⟨rfl, -, rfl⟩ := hv'
    refine ⟨_, g', cap, rfl, hg', hn, by unfold maxLen at hm; omega, hO⟩

/-- How many bytes the first j lists have. -/
def tot (n : Nat → Nat) : Nat → Nat
  | 0 => 0
  | j + 1 => tot n j + n j
theorem tot_le (n : Nat → Nat) {j k : Nat} (h : j ≤ k) : tot n j ≤ tot n k := by
  induction k with
  | zero => rw [Nat.le_zero.1 h]; exact Nat.le_refl _
  | succ k ih =>
    by_cases e : j = k + 1
    · rw [e]; exact Nat.le_refl _
    · exact Nat.le_trans (ih (by omega)) (Nat.le_add_right _ _)
/-- The first j lists behind each other, as cells. -/
def catB (f : Nat → Nat → Int) (n : Nat → Nat) : Nat → List Value
  | 0 => []
  | j + 1 => catB f n j ++ byts (f j) (n j)

/-- The four bytes of a word. -/
def wb (x : Int) (i : Nat) : Int := match i with
  | 0 => x / 16777216
  | 1 => x / 65536 % 256
  | 2 => x / 256 % 256
  | _ => x % 256
end

section
set_option linter.unusedVariables false
set_option linter.unusedSimpArgs false
open Go.RowKit

/-- The byte at a place. -/
def bt (s : ByteArray) (i : Nat) : Nat := (s.get! i).toNat

theorem bt_lt (s : ByteArray) (i : Nat) : bt s i < 256 := UInt8.toNat_lt _

theorem bt_get (s : ByteArray) (i : Nat) (h : i < s.size) : (s[i]'h).toNat = bt s i := by
  unfold bt
  rw [← get_at s i h]
  rfl

/-- What a round of a range over s at place p comes to: the rune r, q bytes wide. -/
structure Rn (s : ByteArray) (p r q : Nat) : Prop where
  dec : Utf8.decode s p = (r, q)
  le : r ≤ 2147483647
  pos : 1 ≤ q
  fits : p + q ≤ s.size
  low : r < 128 → q = 1 ∧ r = bt s p
  high : 128 ≤ r → ∀ j, p ≤ j → j < p + q → 128 ≤ bt s j

theorem cont_high {x : Nat} (h : (x / 64 == 2) = true) : 128 ≤ x := by
  simp at h
  omega

theorem decode_skip (s : ByteArray) (p : Nat) (h : p < s.size) (ha : 128 ≤ bt s p) : p + (Utf8.decode s p).2 ≤ s.size ∧ ∀ j, p ≤ j → j < p + (Utf8.decode s p).2 → 128 ≤ bt s j := by
  have one : p + 1 ≤ s.size ∧ ∀ j, p ≤ j → j < p + 1 → 128 ≤ bt s j := ⟨h, fun j h1 h2 => by
    obtain rfl : j = p := by omega
    exact ha⟩
  have step : ∀ k, (p + k ≤ s.size ∧ ∀ j, p ≤ j → j < p + k → 128 ≤ bt s j) → (decide (p + k < s.size) && (s.get! (p + k)).toNat / 64 == 2) = true → (p + (k + 1) ≤ s.size ∧ ∀ j, p ≤ j → j < p + (k + 1) → 128 ≤ bt s j) := by
    intro k hk hc
    rw [Bool.and_eq_true, decide_eq_true_eq] at hc
    refine ⟨by omega, fun j h1 h2 => ?_⟩
    by_cases e : j = p + k
    · subst e; exact cont_high hc.2
    · exact hk.2 j h1 (by omega)
  have hn : ¬ (s.get! (p + 0)).toNat < 128 := by
    have : bt s p = (s.get! (p + 0)).toNat := rfl
    omega
  simp only [Utf8.decode, hn, if_false]
  split
  · rename_i h1
    simp only [Bool.and_eq_true] at h1
    split
    · exact step 1 one (by simpa using h1.2)
    · exact one
  · split
    · rename_i h1
      simp only [Bool.and_eq_true] at h1
      split
      · exact step 2 (step 1 one (by simpa using h1.1.2)) (by simpa using h1.2)
      · exact one
    · split
      · rename_i h1
        simp only [Bool.and_eq_true] at h1
        split
        · exact step 3 (step 2 (step 1 one (by simpa using h1.1.1.2)) (by simpa using h1.1.2)) (by simpa using h1.2)
        · exact one
      · exact one

theorem rn_at (s : ByteArray) (p : Nat) (h : p < s.size) : ∃ r q, Rn s p r q := by
  by_cases ha : bt s p < 128
  · refine ⟨bt s p, 1, ?_, by omega, Nat.le_refl _, h, fun _ => ⟨rfl, rfl⟩, fun h => by omega⟩
    rw [decode_ascii s p h (by rw [bt_get]; exact ha), bt_get]
  · obtain ⟨h1, h2⟩ := decode_skip s p h (by omega)
    obtain ⟨h3, h4⟩ := decode_high s p h (by rw [bt_get]; omega)
    have h5 := decode_le s p
    exact ⟨(Utf8.decode s p).1, (Utf8.decode s p).2, rfl, h5, h4, h1, fun h => absurd h3 (Nat.not_le_of_lt h), fun _ => h2⟩

theorem Rn.next {P : Program} {s : ByteArray} {p r q : Nat} (h : Rn s p r q) {w : World} {k : Nat} (hk : w.heap[k]? = some (.stringIter s p)) (hp : p < s.size) (ty : TypeId) :
    (Instr.next (.pointer (some ⟨k, 0, none⟩)) true ty).run P w = .ok (.tuple #[.bool true, .int .i64 (p : Int), .int .i32 (r : Int)]) (w.iterAt k s (p + q)) := by
  rw [Lib.run_next_any_at w k s p ty hk hp, h.dec]

/-- A world in which an iterator at block k, of the call's own, stands at place p. -/
structure Itr (w wr : World) (k : Nat) (s : ByteArray) (p : Nat) : Prop where
  blk : wr.heap[k]? = some (.stringIter s p)
  ge : w.heap.size ≤ k
  ext : Ext w wr

theorem Itr.start {w w1 : World} (h : Ext w w1) (s : ByteArray) : Itr w (w1.iter s 0) w1.heap.size s 0 :=
  ⟨World.iter_heap w1 s 0, Below.size h, Ext.trans h (Ext.alloc _ _)⟩

theorem Itr.step {w wr : World} {k : Nat} {s : ByteArray} {p : Nat} (h : Itr w wr k s p) (p' : Nat) : Itr w (wr.iterAt k s p') k s p' :=
  ⟨Lib.iterAt_heap wr k s p p' h.blk, h.ge, Lib.below_iterAt h.ext h.ge s p'⟩

theorem Itr.pos {w wr : World} {k : Nat} {s : ByteArray} {p : Nat} (h : Itr w wr k s p) : wr.iterPos k = p := iterPos_of h.blk

theorem own_iterAt {w : World} {B e size n : Nat} {v : Value} {xs : List Value} {k : Nat} {s : ByteArray} {pos : Nat} (h : w.ownsRow B e size v n xs) (hk : w.heap[k]? = some (.stringIter s pos)) (pos' : Nat) : (w.iterAt k s pos').ownsRow B e size v n xs := by
  refine ⟨h.1, ?_⟩
  rcases h.2 with h0 | ⟨g, cap, cur, hv, hb, hg, rest⟩
  · exact .inl h0
  · refine .inr ⟨g, cap, cur, hv, hb, ?_, rest⟩
    rw [Lib.iterAt_other _ _ _ _ _ (fun e => by subst e; rw [hk] at hg; cases hg)]
    exact hg

/-- What an append to a row of one's own leaves of an iterator. -/
theorem Itr.grown {w wr w1 : World} {k : Nat} {s : ByteArray} {p : Nat} (h : Itr w wr k s p) {B e size n : Nat} {v : Value} {xs : List Value} (ho : wr.ownsRow B e size v n xs) (hB : w.heap.size ≤ B) {o : Obj} (hg : (wr.alloc o).grownBy w1 v.ownBlock) : Itr w w1 k s p := by
  have hlt : k < wr.heap.size := (Array.getElem?_eq_some_iff.1 h.blk).1
  refine ⟨?_, h.ge, ?_⟩
  · rw [hg.block k (by simp; omega) ?_]
    · show (wr.heap.push o)[k]? = _
      rw [Array.getElem?_push_lt hlt, ← h.blk, Array.getElem?_eq_getElem hlt]
    · rcases ho.2 with ⟨rfl, _⟩ | ⟨g, cap, cur, rfl, hb, hg', rest⟩
      · simp [Value.ownBlock]
      · intro e
        simp only [Value.ownBlock, Option.some.injEq] at e
        subst e
        rw [h.blk] at hg'
        cases hg'
  · exact (Below.alloc h.ext (Below.size h.ext) o).grown hg (by have := Below.size h.ext; simp; omega) (fun j hj => by have := (ho.lt j hj).1; omega)

/-- Two strings are one. -/
def eqS (a b : ByteArray) : Bool := a.toList == b.toList
theorem eqS_iff (a b : ByteArray) : eqS a b = true ↔ a = b := by
  unfold eqS
  rw [beq_iff_eq, ByteArray.toList_eq, ByteArray.toList_eq]
  exact ⟨fun h => ByteArray.ext (Array.ext' h), fun h => by rw [h]⟩
theorem eqS_refl (a : ByteArray) : eqS a a = true := (eqS_iff a a).2 rfl
theorem eqS_comm (a b : ByteArray) : eqS a b = eqS b a := by
  cases h : eqS b a
  · cases h' : eqS a b
    · rfl
    · rw [(eqS_iff a b).1 h', eqS_refl] at h; cases h
  · rw [(eqS_iff b a).1 h, eqS_refl]

theorem Tryz.infoS : (Tryz.prog.info? 9).map (fun i => (i.zero, i.size, i.bytes)) = some (some (.string ⟨#[]⟩), 1, 16) := by kernel_rfl
end

section
set_option linter.unusedVariables false
set_option linter.unusedSimpArgs false
set_option maxRecDepth 100000
open Go.RowKit

/-- A list of strings in memory. -/
structure SSeg (w : World) (a : Option Addr) (b off n : Nat) (f : Nat → ByteArray) : Prop where
  at' : 0 < n → a = some ⟨b, off, none⟩
  cell : ∀ i, i < n → w.cell? ⟨b, off + i, none⟩ = some (.string (f i))
theorem SSeg.lt {w : World} {a : Option Addr} {b off n : Nat} {f : Nat → ByteArray} (h : SSeg w a b off n f) (hn : 0 < n) : b < w.heap.size := World.block_lt_of_cell? _ _ (h.cell 0 hn)
theorem SSeg.of_all {w w' : World} {a : Option Addr} {b off n : Nat} {f : Nat → ByteArray} (h : SSeg w a b off n f) (e : Ext w w') : SSeg w' a b off n f :=
  ⟨h.at', fun i hi => (Below.cell e (p := ⟨b, off + i, none⟩) (h.lt (by omega))).trans (h.cell i hi)⟩


/-- What is known of a list of strings that came in. -/
structure StsIn (w : World) (a : Option Addr) (b off n : Nat) (f : Nat → ByteArray) : Prop where
  seg : SSeg w a b off n f
  small : n ≤ 9223372036854775807
  each : ∀ i, i < n → (f i).size ≤ 9223372036854775807

section
open Go.ChangeShapes Go.WideShapes Go.ChangeAt
variable {H : Type} {enc : TypeId × Value → H} {w : World} {base : Nat} {held : Bool}

set_option maxRecDepth 100000 in
theorem open_strsC {fuel : Nat} {cs : List Value} {x : DataW H × List MemPlace} (h : DataW.trod enc Tryz.prog w base (fun _ => true) held fuel 22 cs = some x) :
    ∃ (a : Option Addr) (b off n cap : Nat) (f : Nat → ByteArray), cs = [.slice a n cap] ∧ StsIn w a b off n f := by
  rcases open_strings Tryz.underlying22 Tryz.underlying9 (by kernel_rfl) h with ⟨hcs, _⟩ | ⟨a, len, cap, ss, hcs, _, hl, hm, hz, _, hcell, hsz⟩
  · exact ⟨none, 0, 0, 0, 0, fun _ => ⟨#[]⟩, hcs, ⟨⟨fun h => absurd h (Nat.lt_irrefl _), fun i hi => absurd hi (Nat.not_lt_zero _)⟩, Nat.zero_le _, fun i hi => absurd hi (Nat.not_lt_zero _)⟩⟩
  · simp at hz
    obtain ⟨b, off, spot⟩ := a
    have hmm : len ≤ 9223372036854775807 := by unfold maxLen at hm; omega
    by_cases h0 : len = 0
    · subst h0
      exact ⟨_, 0, 0, 0, cap, fun _ => ⟨#[]⟩, hcs, ⟨⟨fun h => absurd h (Nat.lt_irrefl _), fun i hi => absurd hi (Nat.not_lt_zero _)⟩, Nat.zero_le _, fun i hi => absurd hi (Nat.not_lt_zero _)⟩⟩
    · have hspot : spot = none := by simpa [Addr.add] using World.cell?_spot (hcell 0 (by omega))
      subst hspot
      refine ⟨some ⟨b, off, none⟩, b, off, len, cap, fun i => ss.getD i ByteArray.empty, hcs, ⟨⟨fun _ => rfl, fun i hi => ?_⟩, hmm, fun i hi => ?_⟩⟩
      · have := hcell i (by omega)
        have e : (⟨b, off, none⟩ : Addr).add i = ⟨b, off + i, none⟩ := by
          by_cases h0 : i = 0
          · subst h0; simp [Addr.add]
          · simp [Addr.add, h0]
        rwa [e] at this
      · have hm2 : ss.getD i ByteArray.empty ∈ ss := by
          rw [List.getD_eq_getElem?_getD, List.getElem?_eq_getElem (show i < ss.length by omega)]
          exact List.getElem_mem _
        have := hsz _ hm2
        unfold maxLen at this
        show (ss.getD i ByteArray.empty).size ≤ _
        omega

theorem open_strs {r : Reach} {b0 : Nat} {v : Value} {d : DataW H} {p : List MemPlace} (hv : Value.okWide Tryz.prog w r b0 22 v) (h : DataW.Trod enc Tryz.prog w base (fun _ => true) held 22 v d p) :
    ∃ (a : Option Addr) (b off n cap : Nat) (f : Nat → ByteArray), v = .slice a n cap ∧ StsIn w a b off n f := by
  obtain ⟨a', len', cap', rfl⟩ := okWide_slice Tryz.underlying22 hv
  obtain ⟨fuel, hf⟩ := h
  obtain ⟨a, b, off, n, cap, f, hcs, hI⟩ := open_strsC hf
  simp [Value.cells] at hcs
  obtain ⟨rfl, rfl, rfl⟩ := hcs
  exact ⟨_, b, off, _, _, f, rfl, hI⟩

end

set_option maxHeartbeats 800000 in
theorem szStringS_any (a : Option Addr) (b off n cap : Nat) (f : Nat → ByteArray) (l : Int) (w : World) (hs : StsIn w a b off n f) (l0 : 0 ≤ l) (l1 : l ≤ 1048576) :
    Calls Tryz.prog 18 #[.slice a n cap, .int .i64 l] w fun e w' => (∃ z : Int, e = .returned (.int .i64 z) ∧ -1 ≤ z ∧ z ≤ l ∧ (0 ≤ z → (n : Int) ≤ l ∧ ∀ i, i < n → ((f i).size : Int) ≤ l)) ∧ w' = w := by
  have hn := hs.small
  have He := hide hs.each
  have Hs := hide hs.seg
  clear hs
  by_cases h : l < n
  · have h1 : l - (n : Int) < 0 := by omega
    have h2 : -9223372036854775808 ≤ l - (n : Int) := by omega
    go_enter Tryz.func18, Tryz.ntmps18
    go_wp2
    go_ret
    exact ⟨⟨-1, rfl, by omega, by omega, fun h => by omega⟩, rfl⟩
  · have h1 : ¬ l - (n : Int) < 0 := by omega
    go_enter Tryz.func18, Tryz.ntmps18
    go_wp2
    go_loopw [1, 5] (fun c i wr => wr = w ∧ ∃ (k : Nat) (z : Int), k ≤ n ∧ i = .int .i64 k ∧ c = .int .i64 z ∧ 0 ≤ z ∧ z ≤ l ∧ ∀ j, j < k → ((f j).size : Int) ≤ l) (fun _ i _ => n - (intOf i).toNat)
    case atStart => exact ⟨rfl, 0, l - n, Nat.zero_le _, rfl, rfl, by omega, by omega, fun j hj => absurd hj (Nat.not_lt_zero _)⟩
    case round =>
      obtain ⟨rfl, k, z, hk, rfl, rfl, z0, z1, hd⟩ := hrel
      have HD := hide hd
      clear hd
      by_cases hlt : k < n
      · obtain rfl := Hs.out.at' (by omega)
        have c1 := Hs.out.cell k hlt
        have hsz := He.out k hlt
        have hkn : (k : Int) < (n : Int) := by omega
        have h3 : -9223372036854775808 ≤ z - ((f k).size : Int) := by omega
        by_cases hneg : z - ((f k).size : Int) < 0
        · go_wp2
          go_ret
          exact ⟨⟨-1, rfl, by omega, by omega, fun h => by omega⟩, rfl⟩
        · have HX : Hid (((f k).size : Int) ≤ l) := by show _ ≤ _; omega
          go_wp2
          go_roundw
          case rel => exact ⟨trivial, k + 1, _, by omega, by go_num, rfl, by omega, by omega, fun j hj => by
                        by_cases e : j = k
                        · subst e; exact HX.out
                        · exact HD.out j (by omega)⟩
          case measure => simp [intOf]; omega
      · obtain rfl : k = n := by omega
        go_wp2
        go_ret
        exact ⟨⟨z, rfl, by omega, by omega, fun _ => ⟨by omega, HD.out⟩⟩, rfl⟩

/-- What toStringS has done behind k rounds. -/
structure SCopying (w wr : World) (n k : Nat) (f : Nat → ByteArray) : Prop where
  below : Ext w wr
  size : wr.heap.size = w.heap.size + 1
  row : wr.rowIs w.heap.size 9 n (fun j => .string (if j < k then f j else ⟨#[]⟩))
theorem scopying_start (w : World) (n : Nat) (f : Nat → ByteArray) : SCopying w (w.alloc (.cells (madeCells #[.string ⟨#[]⟩] n) 9)) n 0 f :=
  ⟨Ext.alloc _ _, by simp, (World.rowIs_made w _ n 9).congr (fun j _ => by simp)⟩
theorem scopying_step {w wr : World} {n k : Nat} {f : Nat → ByteArray} (h : SCopying w wr n k f) : SCopying w (wr.setCell ⟨w.heap.size, k, none⟩ (.string (f k))) n (k + 1) f := by
  refine ⟨Below.setCell h.below (Nat.le_refl _) _, by simp [World.setCell, h.size], (h.row.set k _).congr (fun j _ => ?_)⟩
  by_cases e : j = k
  · subst e; simp
  · rw [if_neg e]
    by_cases hlt : j < k
    · rw [if_pos hlt, if_pos (by omega)]
    · rw [if_neg hlt, if_neg (by omega)]

/-- A copied list of strings. -/
structure SCopy (w w' : World) (n : Nat) (f : Nat → ByteArray) : Prop where
  below : Ext w w'
  size : w'.heap.size = w.heap.size + 1
  row : w'.rowIs w.heap.size 9 n (fun j => .string (f j))
theorem SCopy.seg {w w' : World} {n : Nat} {f : Nat → ByteArray} (h : SCopy w w' n f) : SSeg w' (some ⟨w.heap.size, 0, none⟩) w.heap.size 0 n f := ⟨fun _ => rfl, fun i hi => by rw [Nat.zero_add]; exact h.row.cell hi⟩

set_option maxHeartbeats 800000 in
theorem toStringS_any (a : Option Addr) (b off n cap : Nat) (f : Nat → ByteArray) (w : World) (hs : SSeg w a b off n f) (hn : n ≤ 1048576) :
    Calls Tryz.prog 27 #[.slice a n cap] w fun e w' => e = .returned (.slice (some ⟨w.heap.size, 0, none⟩) n n) ∧ SCopy w w' n f := by
  have hmk := run_make_row' (P := Tryz.prog) 22 9 (.string ⟨#[]⟩) 16 Tryz.underlying22 Tryz.infoS rfl .i64 .i64 n (by omega) (by omega)
  go_enter Tryz.func27, Tryz.ntmps27
  go_wp2
  clear hmk
  go_loopw [4] (fun i wr => ∃ k : Nat, k ≤ n ∧ i = .int .i64 k ∧ SCopying w wr n k f) (fun i _ => n - (intOf i).toNat)
  case atStart => exact ⟨0, Nat.zero_le _, rfl, scopying_start w n f⟩
  case round =>
    obtain ⟨k, hk, rfl, hI⟩ := hrel
    by_cases hlt : k < n
    · obtain rfl := hs.at' (by omega)
      have hc : wr.cell? ⟨b, off + k, none⟩ = some (.string (f k)) := (Below.cell hI.below (p := ⟨b, off + k, none⟩) (hs.lt (by omega))).trans (hs.cell k hlt)
      have hd : wr.cell? ⟨w.heap.size, k, none⟩ = some (.string ⟨#[]⟩) := by simpa using hI.row.cell hlt
      have hf : wr.frozen? ⟨w.heap.size, k, none⟩ = false := hI.row.frozen k
      have hkn : (k : Int) < (n : Int) := by omega
      go_wp2
      go_roundw
      case rel => exact ⟨k + 1, by omega, by go_num, scopying_step hI⟩
      case measure => simp [intOf]; omega
    · obtain rfl : k = n := by omega
      go_wp2
      go_ret
      exact ⟨rfl, ⟨hI.below, hI.size, hI.row.congr (fun j hj => by rw [if_pos hj])⟩⟩

set_option maxHeartbeats 800000 in
theorem eqStringS_same (a : Option Addr) (b off n cap : Nat) (f : Nat → ByteArray) (a2 : Option Addr) (b2 off2 cap2 : Nat) (w : World) (hs : SSeg w a b off n f) (hs2 : SSeg w a2 b2 off2 n f) (hn : n ≤ 1048576) :
    Calls Tryz.prog 36 #[.slice a n cap, .slice a2 n cap2] w fun e w' => e = .returned (.bool true) ∧ Ext w w' := by
  go_enter Tryz.func36, Tryz.ntmps36
  go_wp2
  go_loopw [5] (fun i wr => ∃ k : Nat, k ≤ n ∧ i = .int .i64 k ∧ Ext w wr) (fun i _ => n - (intOf i).toNat)
  case atStart => exact ⟨0, Nat.zero_le _, rfl, Ext.refl _⟩
  case round =>
    obtain ⟨k, hk, rfl, hE⟩ := hrel
    by_cases hlt : k < n
    · obtain rfl := hs.at' (by omega)
      obtain rfl := hs2.at' (by omega)
      have c1 := (hs.of_all hE).cell k hlt
      have c2 := (hs2.of_all hE).cell k hlt
      have hkn : (k : Int) < (n : Int) := by omega
      have hq : ((f k).toList == (f k).toList) = true := eqS_refl (f k)
      have HE := hide hE
      clear hs hs2 hE
      go_wp2
      go_quiet (fail)
      go_wp2
      go_roundw
      case rel => exact ⟨k + 1, by omega, by go_num, below_drewN HE.out _⟩
      case measure => simp [intOf]; omega
    · obtain rfl : k = n := by omega
      go_wp2
      go_ret
      exact ⟨rfl, hE⟩
end

section
set_option linter.unusedVariables false
set_option linter.unusedSimpArgs false
set_option maxRecDepth 100000
open Go.RowKit

theorem wpList_ld {P : Program} {w : World} {ops : Array Oper} {rest : List Oper} {o : Oper} {a : Act} {Q : Exit → Act → World → Prop} (hw : Region.wanted o (yielded ops a.tmps) = true) (ty : TypeId) (x : Operand) (ho : o.op = .load ty x) (p : Addr) (hp : a.eval x = .pointer (some p)) (v : Value) (hl : (loadVar ty p).run P w = .ok v w)
    (h : wpList P ops Q rest (a.put o.dst v) w) : wpList P ops Q (o :: rest) a w := by
  rw [wpList]
  simp only [hw, if_true]
  refine Or.inl ?_
  unfold Oper.wp execOp
  simp only [ho, hp, Instr.loadAt, Instr.sureAddr, Sem.run_bind, Sem.run_pure, Result.andThen_ok, hl]
  exact h

theorem wpList_st {P : Program} {w : World} {ops : Array Oper} {rest : List Oper} {o : Oper} {a : Act} {Q : Exit → Act → World → Prop} (hw : Region.wanted o (yielded ops a.tmps) = true) (ty : TypeId) (x y : Operand) (ho : o.op = .store ty x y) (vx : Value) (hx : a.eval x = vx) (vy : Value) (hy : a.eval y = vy) (w2 : World) (hl : (Instr.storeAt ty vx vy).run P w = .ok () w2)
    (h : wpList P ops Q rest (a.put o.dst undef) w2) : wpList P ops Q (o :: rest) a w := by
  rw [wpList]
  simp only [hw, if_true]
  refine Or.inl ?_
  unfold Oper.wp execOp
  simp only [ho, hx, hy, Sem.run_bind, Sem.run_pure, Result.andThen_ok, hl]
  exact h

theorem add_off (b o j : Nat) : (⟨b, o, none⟩ : Addr).add j = ⟨b, o + j, none⟩ := by
  unfold Addr.add
  split <;> simp_all

/-- A struct is loaded as a whole. -/
theorem run_ld {P : Program} (ty : TypeId) (cs : List Value) (w : World) (hs : (Go.sizeOf ty).run P w = .ok cs.length w) (ha : (isAgg ty).run P w = .ok true w) (b o : Nat) (hc : ∀ j v, cs[j]? = some v → w.cell? ⟨b, o + j, none⟩ = some v) :
    (loadVar ty ⟨b, o, none⟩).run P w = .ok (.agg cs.toArray) w := by
  have hld := run_loadCells_list (P := P) w ⟨b, o, none⟩ cs (fun j v h => by
    have := hc j v h
    rwa [add_off])
  simp only [loadVar, Sem.run_bind, ha, Result.andThen_ok, if_true, hs, hld, Sem.run_pure]

theorem setCells_putS (b : Nat) : ∀ (vs : List Value) (o : Nat) (w : World), w.setCells b o vs = putL b o vs w
  | [], _, _ => rfl
  | v :: vs, o, w => by rw [World.setCells, putL, setCells_putS b vs]

/-- A struct is stored as a whole. -/
theorem run_st {P : Program} (ty : TypeId) (cs : List Value) (w : World) (hs : (Go.sizeOf ty).run P w = .ok cs.length w) (h1 : ∀ v ∈ cs, v.oneCell' = true) (b o : Nat) (hc : ∀ j, j < cs.length → (∃ v, w.cell? ⟨b, o + j, none⟩ = some v) ∧ w.frozen? ⟨b, o + j, none⟩ = false) :
    (Instr.storeAt ty (.pointer (some ⟨b, o, none⟩)) (.agg cs.toArray)).run P w = .ok () (putL b o cs w) := by
  have hst := run_storeCells_cells (P := P) b o cs 0 w (fun j hj => by
    obtain ⟨v, h⟩ := (hc j hj).1
    simp [h]) (fun j hj => by simpa using (hc j hj).2) h1
  simp only [Instr.storeAt, Instr.sureAddr, storeVar, Sem.run_bind, Sem.run_pure, Result.andThen_ok, hs, Value.cells]
  rw [setCells_putS] at hst
  simp [hst]

theorem Blk.ld {w : World} {b : Nat} {vs : List Value} (h : Blk w b vs) (o : Nat) (cs : List Value) (hc : ∀ j v, cs[j]? = some v → vs[o + j]? = some v) : ∀ j v, cs[j]? = some v → w.cell? ⟨b, o + j, none⟩ = some v := fun j v hj => (h _ v (hc j v hj)).1

theorem Blk.st {w : World} {b : Nat} {vs : List Value} (h : Blk w b vs) (o n : Nat) (hn : o + n ≤ vs.length) : ∀ j, j < n → (∃ v, w.cell? ⟨b, o + j, none⟩ = some v) ∧ w.frozen? ⟨b, o + j, none⟩ = false := fun j hj => by
  have e : vs[o + j]? = some (vs[o + j]'(by omega)) := List.getElem?_eq_getElem (by omega)
  exact ⟨⟨_, (h _ _ e).1⟩, (h _ _ e).2⟩

theorem cell_putL_out (C : Nat) (q : Addr) : ∀ (vs : List Value) (i : Nat) (w : World), (q.block = C → i + vs.length ≤ q.off) → (putL C i vs w).cell? q = w.cell? q
  | [], _, _, _ => rfl
  | v :: vs, i, w, h => by
    rw [putL, cell_putL_out C q vs (i + 1) _ (fun e => by have := h e; simp at this; omega)]
    refine World.cell?_setCell_other _ _ _ _ ?_
    rintro rfl
    have := h rfl
    simp at this
    omega

/-- Some places of a list, written anew. -/
def putAt (lo : List Value) (i : Nat) (vs : List Value) : List Value := lo.take i ++ (vs ++ lo.drop (i + vs.length))

theorem Blk.putAt {w : World} {C : Nat} {lo : List Value} (h : Blk w C lo) (i : Nat) (vs : List Value) (hl : i + vs.length ≤ lo.length) : Blk (putL C i vs w) C (putAt lo i vs) := fun j v hj => by
  have hlen : (lo.take i).length = i := by rw [List.length_take]; omega
  unfold Go.Proofs.YtigjjkondbdgjaaGreatDoor.putAt at hj
  by_cases h1 : j < i
  · rw [List.getElem?_append_left (by omega), List.getElem?_take_of_lt h1] at hj
    refine ⟨(cell_putL_other C ⟨C, j, none⟩ vs i w (fun _ => h1)).trans (h j v hj).1, by rw [frozen_putL]; exact (h j v hj).2⟩
  · rw [List.getElem?_append_right (by omega), hlen] at hj
    by_cases h2 : j - i < vs.length
    · rw [List.getElem?_append_left h2] at hj
      have := cell_putL C vs i w (fun k hk => by
        rw [(h (i + k) _ (List.getElem?_eq_getElem (by omega))).1]
        rfl) (j - i) v hj
      rw [show i + (j - i) = j by omega] at this
      exact ⟨this, by rw [frozen_putL]; exact (h j _ (List.getElem?_eq_getElem (by omega))).2⟩
    · rw [List.getElem?_append_right (by omega), List.getElem?_drop, show i + vs.length + (j - i - vs.length) = j by omega] at hj
      exact ⟨(cell_putL_out C ⟨C, j, none⟩ vs i w (fun _ => by show _ ≤ j; omega)).trans (h j v hj).1, by rw [frozen_putL]; exact (h j v hj).2⟩

theorem Blk.lt {w : World} {C : Nat} {vs : List Value} (h : Blk w C vs) (hn : 0 < vs.length) : C < w.heap.size := World.block_lt_of_cell? _ _ (h 0 _ (List.getElem?_eq_getElem hn)).1

theorem Blk.set1 {w : World} {C : Nat} {vs : List Value} (h : Blk w C vs) (i : Nat) (v : Value) (hi : i < vs.length) : Blk (w.setCell ⟨C, i, none⟩ v) C (vs.set i v) := fun j u hj => by
  by_cases e : j = i
  · subst e
    rw [List.getElem?_set_self hi] at hj
    simp only [Option.some.injEq] at hj
    subst hj
    obtain ⟨y, hy⟩ : ∃ y, vs[j]? = some y := ⟨_, List.getElem?_eq_getElem hi⟩
    exact ⟨World.cell?_setCell_same _ _ _ (h j y hy).1, by rw [World.frozen?_setCell]; exact (h j y hy).2⟩
  · rw [List.getElem?_set_ne (fun h => e h.symm)] at hj
    refine ⟨?_, by rw [World.frozen?_setCell]; exact (h j u hj).2⟩
    rw [World.cell?_setCell_other _ _ _ _ (fun k => e (by have := congrArg Addr.off k; simp at this; omega))]
    exact (h j u hj).1

theorem Blk.apart1 {w : World} {C D i : Nat} {vs : List Value} (h : Blk w C vs) (v : Value) (hn : C ≠ D) : Blk (w.setCell ⟨D, i, none⟩ v) C vs := fun j u hj => by
  have hb : (w.setCell ⟨D, i, none⟩ v).heap[C]? = w.heap[C]? := Below.heap_setCell _ _ _ _ hn
  exact ⟨(World.cell?_of_block (a := ⟨C, j, none⟩) hb).trans (h j u hj).1, (World.frozen?_of_block (a := ⟨C, j, none⟩) hb).trans (h j u hj).2⟩

/-- Blocks from N on are as they were. -/
def Kp (N : Nat) (w w' : World) : Prop := w.heap.size ≤ w'.heap.size ∧ ∀ k, N ≤ k → k < w.heap.size → w'.heap[k]? = w.heap[k]?

theorem Kp.refl (N : Nat) (w : World) : Kp N w w := ⟨Nat.le_refl _, fun _ _ _ => rfl⟩
theorem Kp.trans {N : Nat} {a b c : World} (h : Kp N a b) (k : Kp N b c) : Kp N a c := ⟨Nat.le_trans h.1 k.1, fun i hi hl => (k.2 i hi (Nat.lt_of_lt_of_le hl h.1)).trans (h.2 i hi hl)⟩
theorem Kp.ext {N : Nat} {a b : World} (h : Ext a b) : Kp N a b := ⟨Below.size h, fun k _ hl => Below.block h k hl⟩
theorem Kp.mono {N M : Nat} {a b : World} (h : Kp N a b) (hM : N ≤ M) : Kp M a b := ⟨h.1, fun k hk hl => h.2 k (Nat.le_trans hM hk) hl⟩
theorem Kp.set {N C : Nat} (hC : C < N) (i : Nat) (v : Value) (w : World) : Kp N w (w.setCell ⟨C, i, none⟩ v) := ⟨by simp [World.setCell], fun k hk _ => Below.heap_setCell _ _ _ _ (by show k ≠ C; omega)⟩
theorem Kp.putL {N C : Nat} (hC : C < N) : ∀ (vs : List Value) (i : Nat) (w : World), Kp N w (putL C i vs w)
  | [], _, _ => Kp.refl _ _
  | v :: vs, i, w => (Kp.set hC i v w).trans (Kp.putL hC vs (i + 1) _)

theorem SSeg.kp {N : Nat} {w w' : World} {a : Option Addr} {b off n : Nat} {f : Nat → ByteArray} (h : SSeg w a b off n f) (hb : N ≤ b) (k : Kp N w w') : SSeg w' a b off n f :=
  ⟨h.at', fun i hi => (World.cell?_of_block (a := ⟨b, off + i, none⟩) (k.2 b hb (h.lt (by omega)))).trans (h.cell i hi)⟩
theorem Seg.kp {N : Nat} {w w' : World} {a : Option Addr} {b off n : Nat} {f : Nat → Int} (h : Seg w a b off n f) (hb : N ≤ b) (k : Kp N w w') : Seg w' a b off n f :=
  ⟨h.at', fun i hi => (World.cell?_of_block (a := ⟨b, off + i, none⟩) (k.2 b hb (h.lt (by omega)))).trans (h.cell i hi)⟩

/-- In the midst of making a struct: what came in, the answer's place, the struct made so far. -/
structure Mkg (w wr : World) (la ld lo : List Value) : Prop where
  ext : Ext w wr
  a : Blk wr w.heap.size la
  d : Blk wr (w.heap.size + 1) ld
  o : Blk wr (w.heap.size + 1 + 1) lo
  lt : w.heap.size + 1 + 1 < wr.heap.size
theorem Mkg.later {w wr wr' : World} {la ld lo : List Value} (h : Mkg w wr la ld lo) (e : Ext wr wr') : Mkg w wr' la ld lo :=
  ⟨h.ext.trans e, h.a.ext e (by have := h.lt; omega), h.d.ext e (by have := h.lt; omega), h.o.ext e h.lt, Nat.lt_of_lt_of_le h.lt (Below.size e)⟩
theorem Mkg.set {w wr : World} {la ld lo : List Value} (h : Mkg w wr la ld lo) (i : Nat) (v : Value) (hi : i < lo.length) : Mkg w (wr.setCell ⟨w.heap.size + 1 + 1, i, none⟩ v) la ld (lo.set i v) :=
  ⟨Below.setCell h.ext (p := ⟨w.heap.size + 1 + 1, i, none⟩) (Nat.le_succ_of_le (Nat.le_succ _)) _, h.a.apart1 _ (by omega), h.d.apart1 _ (by omega), h.o.set1 i v hi, by simp [World.setCell]; exact h.lt⟩
theorem Mkg.put {w wr : World} {la ld lo : List Value} (h : Mkg w wr la ld lo) (i : Nat) (vs : List Value) (hi : i + vs.length ≤ lo.length) : Mkg w (putL (w.heap.size + 1 + 1) i vs wr) la ld (putAt lo i vs) := by
  refine ⟨below_putL (Nat.le_succ_of_le (Nat.le_succ _)) vs i wr h.ext, fun j v hj => ?_, fun j v hj => ?_, h.o.putAt i vs hi, by rw [size_putL]; exact h.lt⟩
  · exact ⟨(cell_putL_other _ ⟨w.heap.size, j, none⟩ vs i wr (fun e => by simp at e; omega)).trans (h.a j v hj).1, by rw [frozen_putL]; exact (h.a j v hj).2⟩
  · exact ⟨(cell_putL_other _ ⟨w.heap.size + 1, j, none⟩ vs i wr (fun e => by simp at e)).trans (h.d j v hj).1, by rw [frozen_putL]; exact (h.d j v hj).2⟩
theorem mkg_start (w : World) (la ld lo : List Value) (t1 t2 t3 : TypeId) {V : World} (hV : ((w.alloc (.cells la.toArray t1)).alloc (.cells ld.toArray t2)).alloc (.cells lo.toArray t3) = V) : Mkg w V la ld lo := by
  obtain ⟨B0, B2, B1, hE, hl⟩ := box3 w la ld lo t1 t2 t3 (w1 := V) (by rw [← hV]; exact Ext.refl _)
  exact ⟨hE, B0, B2, B1, by omega⟩

/-- What was made stays while the struct's own cells are written. -/
theorem later_ext {N : Nat} {a b : World} {S : World → Prop} (h : ∀ w'', Kp N a w'' → S w'') (e : Ext a b) : ∀ w'', Kp N b w'' → S w'' := fun w'' k => h w'' ((Kp.ext e).trans k)
theorem later_set {N C : Nat} {a : World} {S : World → Prop} (h : ∀ w'', Kp N a w'' → S w'') (hC : C < N) (i : Nat) (v : Value) : ∀ w'', Kp N (a.setCell ⟨C, i, none⟩ v) w'' → S w'' := fun w'' k => h w'' ((Kp.set hC i v a).trans k)
theorem later_put {N C : Nat} {a : World} {S : World → Prop} (h : ∀ w'', Kp N a w'' → S w'') (hC : C < N) (i : Nat) (vs : List Value) : ∀ w'', Kp N (putL C i vs a) w'' → S w'' := fun w'' k => h w'' ((Kp.putL hC vs i a).trans k)
theorem later_and {N M : Nat} {a : World} {S T : World → Prop} (h : ∀ w'', Kp N a w'' → S w'') (hM : N ≤ M) (k : ∀ w'', Kp M a w'' → T w'') : ∀ w'', Kp N a w'' → S w'' ∧ T w'' := fun w'' e => ⟨h w'' e, k w'' (e.mono hM)⟩

/-- A result that lies in a block is read there as a whole. -/
theorem results_at {P : Program} {fn : Func} {a : Nat} {T : TypeId} (hf : fn.results = #[.cell a T]) {tmps : Array Value} {q : Addr} {v : Value} {W : World} (ht : tmps.getD a undef = .pointer (some q)) (hl : (loadVar T q).run P W = .ok v W) : (results fn tmps).run P W = .ok v W := by
  have ht' : tmps[a]?.getD undef = .pointer (some q) := by simpa using ht
  simp [results, hf, ht', asAddr, hl]

theorem quiet_ld {P : Program} {o : Oper} {a : Act} {C : World → Prop} {w : World} {v : Value} {ty : TypeId} {x : Operand} {p : Addr} (ho : o.op = .load ty x) (hp : a.eval x = .pointer (some p)) (hl : (loadVar ty p).run P w = .ok v w) : o.quietAt P a C w v := by
  unfold Oper.quietAt execOp
  simp only [ho, hp, Instr.loadAt, Instr.sureAddr, Sem.run_bind, Sem.run_pure, Result.andThen_ok, hl]
  exact ⟨rfl, rfl⟩

theorem head_ld {P : Program} {ops : Array Oper} {X : Nat → Prop} {w : World} {N : Act → Prop} {o : Oper} {rest : List Oper} {a : Act} (hw : Region.wanted o (yielded ops a.tmps) = true) {ty : TypeId} {x : Operand} (ho : o.op = .load ty x) {p : Addr} (hp : a.eval x = .pointer (some p)) {v : Value} (hl : ∀ q : ReC X w, (loadVar ty p).run P q.val = .ok v q.val) (h : headC P ops X w N rest (a.put o.dst v)) : headC P ops X w N (o :: rest) a := by
  refine headC_step (fun K hK => ?_)
  simp only [hw, if_true]
  exact ⟨v, fun q => quiet_ld ho hp (hl q), hK _ h⟩

theorem blk_reC {w : World} {C : Nat} {vs : List Value} (h : Blk w C vs) (h0 : C < w.heap.size) (q : ReC (fun _ => False) w) : Blk q.val C vs := h.ext ⟨q.ok.os, q.ok.tape, q.ok.output, q.ok.size, fun k hk => q.ok.block k hk (fun h => h)⟩ h0

/-- Whether one of the first n is so; whether all are. -/
def anyB (p : Nat → Bool) : Nat → Bool
  | 0 => false
  | n + 1 => anyB p n || p n
def allB (p : Nat → Bool) (n : Nat) : Bool := !anyB (fun i => !p i) n
theorem anyB_yes {p : Nat → Bool} {k n : Nat} (hk : k < n) (h : p k = true) : anyB p n = true := by
  induction n with
  | zero => omega
  | succ n ih =>
    rw [anyB]
    by_cases e : k = n
    · subst e; rw [h, Bool.or_true]
    · rw [ih (by omega), Bool.true_or]
theorem anyB_no {p : Nat → Bool} {n : Nat} (h : ∀ j, j < n → p j = false) : anyB p n = false := by
  induction n with
  | zero => rfl
  | succ n ih => rw [anyB, ih (fun j hj => h j (by omega)), h n (by omega)]; rfl
theorem anyB_iff {p : Nat → Bool} {n : Nat} : anyB p n = true ↔ ∃ k, k < n ∧ p k = true := by
  constructor
  · intro h
    induction n with
    | zero => simp [anyB] at h
    | succ n ih =>
      rw [anyB, Bool.or_eq_true] at h
      rcases h with h | h
      · obtain ⟨k, hk, e⟩ := ih h
        exact ⟨k, by omega, e⟩
      · exact ⟨n, by omega, h⟩
  · rintro ⟨k, hk, e⟩
    exact anyB_yes hk e
theorem allB_no {p : Nat → Bool} {k n : Nat} (hk : k < n) (h : p k = false) : allB p n = false := by
  unfold allB
  rw [anyB_yes (k := k) hk (by simp [h])]; rfl
theorem allB_yes {p : Nat → Bool} {n : Nat} (h : ∀ j, j < n → p j = true) : allB p n = true := by
  unfold allB
  rw [anyB_no (fun j hj => by simp [h j hj])]; rfl
theorem allB_iff {p : Nat → Bool} {n : Nat} : allB p n = true ↔ ∀ k, k < n → p k = true := by
  constructor
  · intro h k hk
    cases e : p k
    · rw [allB_no hk e] at h; cases h
    · rfl
  · exact allB_yes
end

section
set_option linter.unusedVariables false
set_option linter.unusedSimpArgs false
set_option maxRecDepth 100000
open Go.RowKit

/-- Where a list lies. -/
structure Pl where
  ad : Option Addr
  b : Nat
  off : Nat
  cap : Nat
/-- A list of lists of numbers in memory. -/
structure NSeg (w : World) (p : Pl) (q : Nat → Pl) (n : Nat) (ln : Nat → Nat) (f : Nat → Nat → Int) : Prop where
  at' : 0 < n → p.ad = some ⟨p.b, p.off, none⟩
  cell : ∀ i, i < n → w.cell? ⟨p.b, p.off + i, none⟩ = some (.slice (q i).ad (ln i) (q i).cap)
  row : ∀ i, i < n → Seg w (q i).ad (q i).b (q i).off (ln i) (f i)
theorem NSeg.lt {w : World} {p : Pl} {q : Nat → Pl} {n : Nat} {ln : Nat → Nat} {f : Nat → Nat → Int} (h : NSeg w p q n ln f) (hn : 0 < n) : p.b < w.heap.size := World.block_lt_of_cell? _ _ (h.cell 0 hn)
theorem NSeg.of_all {w w' : World} {p : Pl} {q : Nat → Pl} {n : Nat} {ln : Nat → Nat} {f : Nat → Nat → Int} (h : NSeg w p q n ln f) (e : Ext w w') : NSeg w' p q n ln f :=
  ⟨h.at', fun i hi => (Below.cell e (p := ⟨p.b, p.off + i, none⟩) (h.lt (by omega))).trans (h.cell i hi), fun i hi => (h.row i hi).of_all e⟩
theorem NSeg.kp {N : Nat} {w w' : World} {p : Pl} {q : Nat → Pl} {n : Nat} {ln : Nat → Nat} {f : Nat → Nat → Int} (h : NSeg w p q n ln f) (hb : N ≤ p.b) (hq : ∀ i, N ≤ (q i).b) (k : Kp N w w') : NSeg w' p q n ln f :=
  ⟨h.at', fun i hi => (World.cell?_of_block (a := ⟨p.b, p.off + i, none⟩) (k.2 p.b hb (h.lt (by omega)))).trans (h.cell i hi), fun i hi => (h.row i hi).kp (hq i) k⟩

/-- Extensions. -/
structure Ex where
  ca : Bool
  path : Int
  usage : Int
  nh : Nat
  fh : Nat → ByteArray
  nn : Nat
  ln : Nat → Nat
  fn : Nat → Nat → Int
  na : Nat
  fa : Nat → ByteArray
  nd : Nat
  fd : Nat → ByteArray
  np : Nat
  fp : Nat → Int
/-- Where their lists lie. -/
structure ExPl where
  h : Pl
  n : Pl
  ni : Nat → Pl
  a : Pl
  d : Pl
  p : Pl
def exL (x : Ex) (m : ExPl) : List Value := [.bool x.ca, .int .i64 x.path, .int .i64 x.usage, .slice m.h.ad x.nh m.h.cap, .slice m.n.ad x.nn m.n.cap, .slice m.a.ad x.na m.a.cap, .slice m.d.ad x.nd m.d.cap, .slice m.p.ad x.np m.p.cap]
structure ExIn (w : World) (x : Ex) (m : ExPl) : Prop where
  h : SSeg w m.h.ad m.h.b m.h.off x.nh x.fh
  n : NSeg w m.n m.ni x.nn x.ln x.fn
  a : SSeg w m.a.ad m.a.b m.a.off x.na x.fa
  d : SSeg w m.d.ad m.d.b m.d.off x.nd x.fd
  p : Seg w m.p.ad m.p.b m.p.off x.np x.fp
theorem ExIn.ext {w w' : World} {x : Ex} {m : ExPl} (h : ExIn w x m) (e : Ext w w') : ExIn w' x m := ⟨h.h.of_all e, h.n.of_all e, h.a.of_all e, h.d.of_all e, h.p.of_all e⟩
/-- How great they are. -/
structure ExSm (x : Ex) (B : Nat) : Prop where
  h : x.nh ≤ B
  hs : ∀ i, i < x.nh → (x.fh i).size ≤ B
  n : x.nn ≤ B
  ns : ∀ i, i < x.nn → x.ln i ≤ B
  a : x.na ≤ B
  as' : ∀ i, i < x.na → (x.fa i).size ≤ B
  d : x.nd ≤ B
  ds : ∀ i, i < x.nd → (x.fd i).size ≤ B
  p : x.np ≤ B

theorem szInts_any (a : Option Addr) (n cap : Nat) (l : Int) (w : World) (l0 : 0 ≤ l) (l1 : l ≤ 1048576) (hn : n ≤ 9223372036854775807) :
    Calls Tryz.prog 46 #[.slice a n cap, .int .i64 l] w fun e w' => (∃ z : Int, e = .returned (.int .i64 z) ∧ -1 ≤ z ∧ z ≤ l ∧ (0 ≤ z → (n : Int) ≤ l)) ∧ w' = w := by
  by_cases h : l < n
  · have h1 : l - (n : Int) < 0 := by omega
    have h2 : -9223372036854775808 ≤ l - (n : Int) := by omega
    go_enter Tryz.func46, Tryz.ntmps46
    go_wp2
    go_ret
    exact ⟨⟨-1, rfl, by omega, by omega, fun h => by omega⟩, rfl⟩
  · obtain ⟨D, hD⟩ : ∃ D, l - (n : Int) = D := ⟨_, rfl⟩
    have d0 : -1 ≤ D := by omega
    have d1 : D ≤ l := by omega
    have d2 : (n : Int) ≤ l := by omega
    have h1 : ¬ D < 0 := by omega
    have h3 : -9223372036854775808 ≤ D := by omega
    have h4 : D ≤ 9223372036854775807 := by omega
    go_enter Tryz.func46, Tryz.ntmps46
    go_wp2
    go_ret
    exact ⟨⟨D, rfl, d0, d1⟩, rfl⟩

set_option maxHeartbeats 1600000 in
theorem szIntSS_any (p : Pl) (q : Nat → Pl) (n : Nat) (ln : Nat → Nat) (f : Nat → Nat → Int) (l : Int) (w : World) (hs : NSeg w p q n ln f) (hn : n ≤ 9223372036854775807) (hl : ∀ i, i < n → ln i ≤ 9223372036854775807) (l0 : 0 ≤ l) (l1 : l ≤ 1048576) :
    Calls Tryz.prog 47 #[.slice p.ad n p.cap, .int .i64 l] w fun e w' => (∃ z : Int, e = .returned (.int .i64 z) ∧ -1 ≤ z ∧ z ≤ l ∧ (0 ≤ z → (n : Int) ≤ l ∧ ∀ i, i < n → (ln i : Int) ≤ l)) ∧ w' = w := by
  obtain ⟨ad, b, off, cap⟩ := p
  have He := hide hl
  have Hs := hide hs
  clear hs hl
  dsimp only
  by_cases h : l < n
  · have h1 : l - (n : Int) < 0 := by omega
    have h2 : -9223372036854775808 ≤ l - (n : Int) := by omega
    go_enter Tryz.func47, Tryz.ntmps47
    go_wp2
    go_ret
    exact ⟨⟨-1, rfl, by omega, by omega, fun h => by omega⟩, rfl⟩
  · have h1 : ¬ l - (n : Int) < 0 := by omega
    go_enter Tryz.func47, Tryz.ntmps47
    go_wp2
    go_loopw [1, 5] (fun c i wr => wr = w ∧ ∃ (k : Nat) (z : Int), k ≤ n ∧ i = .int .i64 k ∧ c = .int .i64 z ∧ 0 ≤ z ∧ z ≤ l ∧ ∀ j, j < k → (ln j : Int) ≤ l) (fun _ i _ => n - (intOf i).toNat)
    case atStart => exact ⟨rfl, 0, l - n, Nat.zero_le _, rfl, rfl, by omega, by omega, fun j hj => absurd hj (Nat.not_lt_zero _)⟩
    case round =>
      obtain ⟨rfl, k, z, hk, rfl, rfl, z0, z1, hd⟩ := hrel
      have HD := hide hd
      clear hd
      by_cases hlt : k < n
      · have hat := Hs.out.at' (by omega)
        dsimp only at hat
        subst hat
        have c1 := Hs.out.cell k hlt
        dsimp only at c1
        have HZ := hide (szInts_any (q k).ad (ln k) (q k).cap z wr z0 (by omega) (He.out k hlt))
        have hkn : (k : Int) < (n : Int) := by omega
        go_wp2_with fail
        refine HZ.out.mono ?_
        rintro e W ⟨⟨y, rfl, y0, y1, hy⟩, hw⟩
        obtain rfl := hw.symm
        clear hw
        have HY := hide hy
        clear hy HZ
        by_cases hneg : y < 0
        · go_wp2
          go_ret
          exact ⟨⟨-1, rfl, by omega, by omega, fun h => by omega⟩, rfl⟩
        · go_wp2
          go_roundw
          case rel => exact ⟨trivial, k + 1, _, by omega, by go_num, rfl, by omega, by omega, fun j hj => by
                        by_cases e : j = k
                        · subst e; have := HY.out (by omega); omega
                        · exact HD.out j (by omega)⟩
          case measure => simp [intOf]; omega
      · obtain rfl : k = n := by omega
        go_wp2
        go_ret
        exact ⟨⟨z, rfl, by omega, by omega, fun _ => ⟨by omega, HD.out⟩⟩, rfl⟩

theorem Tryz.infoIS : (Tryz.prog.info? 23).map (fun i => (i.zero, i.size, i.bytes)) = some (some (.slice none 0 0), 1, 24) := by kernel_rfl

/-- What toIntSS has done behind k rounds. -/
structure NCopying (w wr : World) (n k : Nat) (ln : Nat → Nat) (f : Nat → Nat → Int) : Prop where
  below : Ext w wr
  size : wr.heap.size = w.heap.size + 1 + k
  row : wr.rowIs w.heap.size 23 n (fun j => if j < k then .slice (some ⟨w.heap.size + 1 + j, 0, none⟩) (ln j) (ln j) else .slice none 0 0)
  each : ∀ j, j < k → wr.rowIs (w.heap.size + 1 + j) 3 (ln j) (fun i => .int .i64 (f j i))

set_option maxHeartbeats 1600000 in
theorem toIntSS_any (p : Pl) (q : Nat → Pl) (n : Nat) (ln : Nat → Nat) (f : Nat → Nat → Int) (w : World) (hs : NSeg w p q n ln f) (hn : n ≤ 1048576) (hl : ∀ i, i < n → ln i ≤ 1048576) :
    Calls Tryz.prog 63 #[.slice p.ad n p.cap] w fun e w' => e = .returned (.slice (some ⟨w.heap.size, 0, none⟩) n n) ∧ NCopying w w' n n ln f := by
  obtain ⟨ad, b, off, cap⟩ := p
  dsimp only
  have hmk := run_make_row' (P := Tryz.prog) 34 23 (.slice none 0 0) 24 Tryz.underlying34 Tryz.infoIS rfl .i64 .i64 n (by omega) (by omega)
  have Hs := hide hs
  have Hl := hide hl
  clear hs hl
  go_enter Tryz.func63, Tryz.ntmps63
  go_wp2
  clear hmk
  go_loopw [4] (fun i wr => ∃ k : Nat, k ≤ n ∧ i = .int .i64 k ∧ NCopying w wr n k ln f) (fun i _ => n - (intOf i).toNat)
  case atStart => exact ⟨0, Nat.zero_le _, rfl, ⟨Ext.alloc _ _, by simp, (World.rowIs_made w _ n 23).congr (fun j _ => by simp), fun j hj => absurd hj (Nat.not_lt_zero _)⟩⟩
  case round =>
    obtain ⟨k, hk, rfl, hI⟩ := hrel
    by_cases hlt : k < n
    · have hs' := Hs.out.of_all hI.below
      have hat := Hs.out.at' (by omega)
      dsimp only at hat
      subst hat
      have c1 := hs'.cell k hlt
      dsimp only at c1
      have HT := hide (toIntS_any (q k).ad (q k).b (q k).off (ln k) (q k).cap (f k) wr (hs'.row k hlt) (Hl.out k hlt))
      have hkn : (k : Int) < (n : Int) := by omega
      have HI := hide hI
      clear hI hs'
      go_wp2_with fail
      refine HT.out.mono ?_
      rintro e W ⟨rfl, sW, hR, hE⟩
      have hrow := rowIs_below HI.out.row hE HI.out.row.lt
      have r0 : W.cell? ⟨w.heap.size, k, none⟩ = some (.slice none 0 0) := (hrow.cell hlt).trans (by simp)
      have f0 := hrow.frozen k
      have HJ : Hid (NCopying w (W.setCell ⟨w.heap.size, k, none⟩ (.slice (some ⟨wr.heap.size, 0, none⟩) (ln k) (ln k))) n (k + 1) ln f) := by
        have hz := HI.out.size
        refine ⟨Below.setCell (Ext.trans HI.out.below hE) (Nat.le_refl _) _, by simp [World.setCell, sW, hz]; omega, (hrow.set k _).congr (fun j _ => ?_), fun j hj => ?_⟩
        · by_cases e : j = k
          · subst e
            rw [if_pos rfl, if_pos (by omega), hz]
          · rw [if_neg e]
            by_cases h1 : j < k
            · rw [if_pos h1, if_pos (by omega)]
            · rw [if_neg h1, if_neg (by omega)]
        · refine World.rowIs.setOther ?_ (by simp; omega) _
          by_cases e : j = k
          · subst e
            rw [← hz]
            exact hR
          · exact rowIs_below (HI.out.each j (by omega)) hE (HI.out.each j (by omega)).lt
      clear hrow hR hE sW HI HT
      go_wp2
      go_roundw
      case rel => exact ⟨k + 1, by omega, by go_num, HJ.out⟩
      case measure => simp [intOf]; omega
    · obtain rfl : k = n := by omega
      go_wp2
      go_ret
      exact ⟨rfl, hI⟩

theorem NCopying.seg {w w' : World} {n : Nat} {ln : Nat → Nat} {f : Nat → Nat → Int} (h : NCopying w w' n n ln f) : NSeg w' ⟨some ⟨w.heap.size, 0, none⟩, w.heap.size, 0, n⟩ (fun j => ⟨some ⟨w.heap.size + 1 + j, 0, none⟩, w.heap.size + 1 + j, 0, ln j⟩) n ln f :=
  ⟨fun _ => rfl, fun i hi => by
    show w'.cell? ⟨w.heap.size, 0 + i, none⟩ = _
    rw [Nat.zero_add, h.row.cell hi, if_pos hi], fun i hi => Seg.of_row (h.each i hi) (Nat.le_refl _)⟩

set_option maxHeartbeats 1600000 in
theorem eqIntSS_same (p p2 : Pl) (q q2 : Nat → Pl) (n : Nat) (ln : Nat → Nat) (f : Nat → Nat → Int) (w : World) (hs : NSeg w p q n ln f) (hs2 : NSeg w p2 q2 n ln f) (hn : n ≤ 1048576) (hl : ∀ i, i < n → ln i ≤ 1048576) :
    Calls Tryz.prog 83 #[.slice p.ad n p.cap, .slice p2.ad n p2.cap] w fun e w' => e = .returned (.bool true) ∧ Ext w w' := by
  obtain ⟨ad, b, off, cap⟩ := p
  obtain ⟨ad2, b2, off2, cap2⟩ := p2
  dsimp only
  have Hs := hide hs
  have Hs2 := hide hs2
  have Hl := hide hl
  clear hs hs2 hl
  go_enter Tryz.func83, Tryz.ntmps83
  go_wp2
  go_loopw [5] (fun i wr => ∃ k : Nat, k ≤ n ∧ i = .int .i64 k ∧ Ext w wr) (fun i _ => n - (intOf i).toNat)
  case atStart => exact ⟨0, Nat.zero_le _, rfl, Ext.refl _⟩
  case round =>
    obtain ⟨k, hk, rfl, hE⟩ := hrel
    by_cases hlt : k < n
    · have g1 := Hs.out.of_all hE
      have g2 := Hs2.out.of_all hE
      have hat := Hs.out.at' (by omega)
      have hat2 := Hs2.out.at' (by omega)
      dsimp only at hat hat2
      subst hat hat2
      have c1 := g1.cell k hlt
      have c2 := g2.cell k hlt
      dsimp only at c1 c2
      have k1 := cell_regrown c1
      have k2 := cell_regrown c2
      have hkn : (k : Int) < (n : Int) := by omega
      have HQ : Hid (∀ W, Ext wr W → Calls Tryz.prog 78 #[.slice (q k).ad (ln k) (q k).cap, .slice (q2 k).ad (ln k) (q2 k).cap] W fun e w' => e = .returned (.bool true) ∧ Ext W w') := fun W hW =>
        (eqIntS_any (q k).ad (q k).b (q k).off (ln k) (q k).cap (f k) (q2 k).ad (q2 k).b (q2 k).off (ln k) (q2 k).cap (f k) W ((g1.row k hlt).of_all hW) ((g2.row k hlt).of_all hW) (Hl.out k hlt)).mono fun e w' ⟨h1, z, h2⟩ => ⟨by rw [h1, (alike_iff _ _ _).2 (fun _ _ => rfl)]; simp, by rw [h2]; exact below_drewN (Ext.refl _) _⟩
      have HX : Hid (∀ d os, Calls Tryz.prog 78 #[.slice (q k).ad (ln k) (q k).cap, .slice (q2 k).ad (ln k) (q2 k).cap] (Sort.grow (redrawn wr d) os) fun e w'' => e = .returned (.bool true) ∧ ∃ p : Regrown, w'' = Sort.grow (redrawn wr p.d) p.os) := fun d os => Calls.regrown_of (HQ.out _ (below_regrown wr d os))
      have HE := hide hE
      clear hE g1 g2 HQ
      go_wp2_with fail
      refine wp_region_quiet_below (by kernel_rfl) (by kernel_rfl) ?_
      repeat (first | go_big_quiet_step (first | (go_at_call 78; exact HX.out _ _)) | quiet_step (first | (go_at_call 78; exact HX.out _ _)))
      refine wpQuiet_nil ?_
      intro _ hw'
      obtain ⟨⟨dq, osq⟩, hw''⟩ := hw'
      subst hw''
      have HE1 : Hid (Ext wr (Sort.grow (redrawn wr dq) osq)) := hide (below_regrown wr dq osq)
      go_wp2
      go_roundw
      case rel => exact ⟨k + 1, by omega, by go_num, Ext.trans HE.out HE1.out⟩
      case measure => simp [intOf]; omega
    · obtain rfl : k = n := by omega
      go_wp2
      go_ret
      exact ⟨rfl, hE⟩

theorem Blk.putAll1 {w : World} {C : Nat} {us vs : List Value} (h : Blk w C us) (hl : us.length = vs.length) : Blk (putL C 0 vs w) C vs := fun j v hj => by
  have hi := (List.getElem?_eq_some_iff.1 hj).1
  have := cell_putL C vs 0 w (fun k hk => by
    obtain ⟨y, hy⟩ : ∃ y, us[k]? = some y := ⟨_, List.getElem?_eq_getElem (by omega)⟩
    rw [Nat.zero_add, (h k y hy).1]
    rfl) j v hj
  rw [Nat.zero_add] at this
  obtain ⟨y, hy⟩ : ∃ y, us[j]? = some y := ⟨_, List.getElem?_eq_getElem (by omega)⟩
  exact ⟨this, by rw [frozen_putL]; exact (h j y hy).2⟩

theorem toStrs_kp (p : Pl) (n : Nat) (f : Nat → ByteArray) (W : World) (hs : SSeg W p.ad p.b p.off n f) (hn : n ≤ 1048576) :
    Calls Tryz.prog 27 #[.slice p.ad n p.cap] W fun e w' => ∃ q : Pl, e = .returned (.slice q.ad n q.cap) ∧ (∀ w'', Kp W.heap.size w' w'' → SSeg w'' q.ad q.b q.off n f) ∧ Ext W w' :=
  (toStringS_any p.ad p.b p.off n p.cap f W hs hn).mono fun e w' ⟨h1, h2⟩ => ⟨⟨some ⟨W.heap.size, 0, none⟩, W.heap.size, 0, n⟩, h1, fun w'' k => h2.seg.kp (Nat.le_refl _) k, h2.below⟩

theorem toInts_kp (p : Pl) (n : Nat) (f : Nat → Int) (W : World) (hs : Seg W p.ad p.b p.off n f) (hn : n ≤ 1048576) :
    Calls Tryz.prog 58 #[.slice p.ad n p.cap] W fun e w' => ∃ q : Pl, e = .returned (.slice q.ad n q.cap) ∧ (∀ w'', Kp W.heap.size w' w'' → Seg w'' q.ad q.b q.off n f) ∧ Ext W w' :=
  (toIntS_any p.ad p.b p.off n p.cap f W hs hn).mono fun e w' ⟨h1, h2, h3, h4⟩ => ⟨⟨some ⟨W.heap.size, 0, none⟩, W.heap.size, 0, n⟩, h1, fun w'' k => (Seg.of_row h3 (Nat.le_refl _)).kp (Nat.le_refl _) k, h4⟩

theorem toNets_kp (p : Pl) (q : Nat → Pl) (n : Nat) (ln : Nat → Nat) (f : Nat → Nat → Int) (W : World) (hs : NSeg W p q n ln f) (hn : n ≤ 1048576) (hl : ∀ i, i < n → ln i ≤ 1048576) :
    Calls Tryz.prog 63 #[.slice p.ad n p.cap] W fun e w' => ∃ r : Pl × (Nat → Pl), e = .returned (.slice r.1.ad n r.1.cap) ∧ (∀ w'', Kp W.heap.size w' w'' → NSeg w'' r.1 r.2 n ln f) ∧ Ext W w' :=
  (toIntSS_any p q n ln f W hs hn hl).mono fun e w' ⟨h1, h2⟩ => ⟨⟨⟨some ⟨W.heap.size, 0, none⟩, W.heap.size, 0, n⟩, fun j => ⟨some ⟨W.heap.size + 1 + j, 0, none⟩, W.heap.size + 1 + j, 0, ln j⟩⟩, h1, fun w'' k => NSeg.kp (N := W.heap.size) h2.seg (Nat.le_refl _) (fun i => by show W.heap.size ≤ W.heap.size + 1 + i; omega) k, h2.below⟩

theorem eqInts_same (p p2 : Pl) (n : Nat) (f : Nat → Int) (W : World) (hs : Seg W p.ad p.b p.off n f) (hs2 : Seg W p2.ad p2.b p2.off n f) (hn : n ≤ 1048576) :
    Calls Tryz.prog 78 #[.slice p.ad n p.cap, .slice p2.ad n p2.cap] W fun e w' => e = .returned (.bool true) ∧ Ext W w' :=
  (eqIntS_any p.ad p.b p.off n p.cap f p2.ad p2.b p2.off n p2.cap f W hs hs2 hn).mono fun e w' ⟨h1, z, h2⟩ => ⟨by rw [h1, (alike_iff _ _ _).2 (fun _ _ => rfl)]; simp, by rw [h2]; exact below_drewN (Ext.refl _) _⟩

set_option maxHeartbeats 6400000 in
set_option maxRecDepth 100000 in
theorem szExts_any (x : Ex) (m : ExPl) (l : Int) (w : World) (hI : ExIn w x m) (hS : ExSm x 9223372036854775807) (l0 : 0 ≤ l) (l1 : l ≤ 1048576) :
    Calls Tryz.prog 20 #[.agg (exL x m).toArray, .int .i64 l] w fun e w' => (∃ z : Int, e = .returned (.int .i64 z) ∧ -1 ≤ z ∧ z ≤ l ∧ (0 ≤ z → ExSm x 1048576)) ∧ Ext w w' := by
  obtain ⟨V, hV⟩ : ∃ V, w.alloc (.cells (exL x m).toArray 36) = V := ⟨_, rfl⟩
  obtain ⟨B0, hE, -⟩ := box1 w (exL x m) 36 (w1 := V) (by rw [← hV]; exact Ext.refl _)
  have HB := hide B0
  have HE := hide hE
  have HI := hide (hI.ext hE)
  have HS := hide hS
  clear B0 hE hI hS
  have c0 := (HB.out 3 _ rfl).1
  have c1 := (HB.out 4 _ rfl).1
  have c2 := (HB.out 5 _ rfl).1
  have c3 := (HB.out 6 _ rfl).1
  have c4 := (HB.out 7 _ rfl).1
  go_enter Tryz.func20, Tryz.ntmps20
  go_wp2_with fail
  refine (szStringS_any m.h.ad m.h.b m.h.off x.nh m.h.cap x.fh l V ⟨HI.out.h, HS.out.h, HS.out.hs⟩ (by omega) (by omega)).mono ?_
  rintro e W ⟨⟨z0, rfl, z00, z01, hz0⟩, hw⟩
  obtain rfl := hw.symm
  clear hw
  have Hz0 := hide hz0
  clear hz0
  by_cases h0 : z0 < 0
  · go_wp2
    go_ret
    exact ⟨⟨-1, rfl, by omega, by omega, fun h => by omega⟩, HE.out⟩
  go_wp2_with fail
  refine (szIntSS_any m.n m.ni x.nn x.ln x.fn z0 V HI.out.n HS.out.n HS.out.ns (by omega) (by omega)).mono ?_
  rintro e W ⟨⟨z1, rfl, z10, z11, hz1⟩, hw⟩
  obtain rfl := hw.symm
  clear hw
  have Hz1 := hide hz1
  clear hz1
  by_cases h1 : z1 < 0
  · go_wp2
    go_ret
    exact ⟨⟨-1, rfl, by omega, by omega, fun h => by omega⟩, HE.out⟩
  go_wp2_with fail
  refine (szStringS_any m.a.ad m.a.b m.a.off x.na m.a.cap x.fa z1 V ⟨HI.out.a, HS.out.a, HS.out.as'⟩ (by omega) (by omega)).mono ?_
  rintro e W ⟨⟨z2, rfl, z20, z21, hz2⟩, hw⟩
  obtain rfl := hw.symm
  clear hw
  have Hz2 := hide hz2
  clear hz2
  by_cases h2 : z2 < 0
  · go_wp2
    go_ret
    exact ⟨⟨-1, rfl, by omega, by omega, fun h => by omega⟩, HE.out⟩
  go_wp2_with fail
  refine (szStringS_any m.d.ad m.d.b m.d.off x.nd m.d.cap x.fd z2 V ⟨HI.out.d, HS.out.d, HS.out.ds⟩ (by omega) (by omega)).mono ?_
  rintro e W ⟨⟨z3, rfl, z30, z31, hz3⟩, hw⟩
  obtain rfl := hw.symm
  clear hw
  have Hz3 := hide hz3
  clear hz3
  by_cases h3 : z3 < 0
  · go_wp2
    go_ret
    exact ⟨⟨-1, rfl, by omega, by omega, fun h => by omega⟩, HE.out⟩
  go_wp2_with fail
  refine (szInts_any m.p.ad x.np m.p.cap z3 V (by omega) (by omega) HS.out.p).mono ?_
  rintro e W ⟨⟨z4, rfl, z40, z41, hz4⟩, hw⟩
  obtain rfl := hw.symm
  clear hw
  have Hz4 := hide hz4
  clear hz4
  by_cases h4 : z4 < 0
  · go_wp2
    go_ret
    exact ⟨⟨-1, rfl, by omega, by omega, fun h => by omega⟩, HE.out⟩
  go_wp2
  go_ret
  exact ⟨⟨z4, rfl, by omega, by omega, fun _ => by have e0 := Hz0.out (by omega); have e1 := Hz1.out (by omega); have e2 := Hz2.out (by omega); have e3 := Hz3.out (by omega); have e4 := Hz4.out (by omega); exact ⟨by omega, fun i hi => by have := e0.2 i hi; omega, by omega, fun i hi => by have := e1.2 i hi; omega, by omega, fun i hi => by have := e2.2 i hi; omega, by omega, fun i hi => by have := e3.2 i hi; omega, by omega⟩⟩, HE.out⟩

/-- Copied extensions. -/
def GivesEx (w : World) (x : Ex) (e : Ending) (w' : World) : Prop := ∃ m : ExPl, e = .returned (.agg (exL x m).toArray) ∧ (∀ w'', Kp w.heap.size w' w'' → ExIn w'' x m) ∧ Ext w w'

set_option maxHeartbeats 12800000 in
set_option maxRecDepth 100000 in
theorem toExts_any (x : Ex) (m : ExPl) (w : World) (hI : ExIn w x m) (hS : ExSm x 1048576) :
    Calls Tryz.prog 29 #[.agg (exL x m).toArray] w fun e w' => GivesEx w x e w' := by
  obtain ⟨V, hV⟩ : ∃ V, ((w.alloc (.cells (exL x m).toArray 36)).alloc (.cells #[.bool false, .int .i64 0, .int .i64 0, .slice none 0 0, .slice none 0 0, .slice none 0 0, .slice none 0 0, .slice none 0 0] 48)).alloc (.cells #[.bool false, .int .i64 0, .int .i64 0, .slice none 0 0, .slice none 0 0, .slice none 0 0, .slice none 0 0, .slice none 0 0] 48) = V := ⟨_, rfl⟩
  have HM := hide (mkg_start w (exL x m) [.bool false, .int .i64 0, .int .i64 0, .slice none 0 0, .slice none 0 0, .slice none 0 0, .slice none 0 0, .slice none 0 0] [.bool false, .int .i64 0, .int .i64 0, .slice none 0 0, .slice none 0 0, .slice none 0 0, .slice none 0 0, .slice none 0 0] 36 48 48 hV)
  have HN : Hid (w.heap.size + 1 + 1 < V.heap.size) := hide HM.out.lt
  have HI := hide hI
  have HS := hide hS
  clear hI hS
  have HF : Hid (∀ w'', Kp V.heap.size V w'' → True) := hide (fun _ _ => trivial)
  have HG : Hid (V.heap.size ≤ V.heap.size) := hide (Nat.le_refl _)
  have a0 := (HM.out.a 0 _ rfl).1
  have a1 := (HM.out.a 1 _ rfl).1
  have a2 := (HM.out.a 2 _ rfl).1
  have a3 := (HM.out.a 3 _ rfl).1
  have o0 := (HM.out.o 0 _ rfl).1
  have f0 := (HM.out.o 0 _ rfl).2
  have o1 := (HM.out.o 1 _ rfl).1
  have f1 := (HM.out.o 1 _ rfl).2
  have o2 := (HM.out.o 2 _ rfl).1
  have f2 := (HM.out.o 2 _ rfl).2
  have HM1 := hide (Mkg.set (Mkg.set (Mkg.set HM.out 0 (.bool x.ca) (by simp [exL])) 1 (.int .i64 x.path) (by simp [exL])) 2 (.int .i64 x.usage) (by simp [exL]))
  have HF1 := hide (later_set (later_set (later_set HF.out HN.out 0 (.bool x.ca)) HN.out 1 (.int .i64 x.path)) HN.out 2 (.int .i64 x.usage))
  have HL1 : Hid (V.heap.size = (((V.setCell ⟨w.heap.size + 1 + 1, 0, none⟩ (.bool x.ca)).setCell ⟨w.heap.size + 1 + 1, 1, none⟩ (.int .i64 x.path)).setCell ⟨w.heap.size + 1 + 1, 2, none⟩ (.int .i64 x.usage)).heap.size) := hide (by first | rfl | simp [World.setCell, size_putL])
  go_enter Tryz.func29, Tryz.ntmps29
  go_wp2_with fail
  refine (toStrs_kp m.h x.nh x.fh _ (HI.out.h.of_all HM1.out.ext) HS.out.h).mono ?_
  rintro e w1 ⟨ph, rfl, hS0, hEW⟩
  clear a0 a1 a2 a3 o0 f0 o1 f1 o2 f2
  replace HM : Hid (Mkg w w1 (exL x m) [.bool false, .int .i64 0, .int .i64 0, .slice none 0 0, .slice none 0 0, .slice none 0 0, .slice none 0 0, .slice none 0 0] [.bool x.ca, .int .i64 x.path, .int .i64 x.usage, .slice none 0 0, .slice none 0 0, .slice none 0 0, .slice none 0 0, .slice none 0 0]) := hide (Mkg.later HM1.out hEW)
  replace HF := hide (later_and (later_ext HF1.out hEW) (Nat.le_trans HG.out (Nat.le_of_eq HL1.out)) hS0)
  replace HG : Hid (V.heap.size ≤ w1.heap.size) := hide (Nat.le_trans HG.out (Nat.le_trans (Nat.le_of_eq HL1.out) (Below.size hEW)))
  clear hS0 hEW HM1 HF1 HL1
  have a4 := (HM.out.a 4 _ rfl).1
  have o3 := (HM.out.o 3 _ rfl).1
  have f3 := (HM.out.o 3 _ rfl).2
  have HM1 := hide (Mkg.set HM.out 3 (.slice ph.ad x.nh ph.cap) (by simp [exL]))
  have HF1 := hide (later_set HF.out HN.out 3 (.slice ph.ad x.nh ph.cap))
  have HL1 : Hid (w1.heap.size = (w1.setCell ⟨w.heap.size + 1 + 1, 3, none⟩ (.slice ph.ad x.nh ph.cap)).heap.size) := hide (by first | rfl | simp [World.setCell, size_putL])
  go_wp2_with fail
  refine (toNets_kp m.n m.ni x.nn x.ln x.fn _ (HI.out.n.of_all HM1.out.ext) HS.out.n HS.out.ns).mono ?_
  rintro e w2 ⟨pn, rfl, hS1, hEW⟩
  clear a4 o3 f3
  replace HM : Hid (Mkg w w2 (exL x m) [.bool false, .int .i64 0, .int .i64 0, .slice none 0 0, .slice none 0 0, .slice none 0 0, .slice none 0 0, .slice none 0 0] [.bool x.ca, .int .i64 x.path, .int .i64 x.usage, .slice ph.ad x.nh ph.cap, .slice none 0 0, .slice none 0 0, .slice none 0 0, .slice none 0 0]) := hide (Mkg.later HM1.out hEW)
  replace HF := hide (later_and (later_ext HF1.out hEW) (Nat.le_trans HG.out (Nat.le_of_eq HL1.out)) hS1)
  replace HG : Hid (V.heap.size ≤ w2.heap.size) := hide (Nat.le_trans HG.out (Nat.le_trans (Nat.le_of_eq HL1.out) (Below.size hEW)))
  clear hS1 hEW HM1 HF1 HL1
  have a5 := (HM.out.a 5 _ rfl).1
  have o4 := (HM.out.o 4 _ rfl).1
  have f4 := (HM.out.o 4 _ rfl).2
  have HM1 := hide (Mkg.set HM.out 4 (.slice pn.1.ad x.nn pn.1.cap) (by simp [exL]))
  have HF1 := hide (later_set HF.out HN.out 4 (.slice pn.1.ad x.nn pn.1.cap))
  have HL1 : Hid (w2.heap.size = (w2.setCell ⟨w.heap.size + 1 + 1, 4, none⟩ (.slice pn.1.ad x.nn pn.1.cap)).heap.size) := hide (by first | rfl | simp [World.setCell, size_putL])
  go_wp2_with fail
  refine (toStrs_kp m.a x.na x.fa _ (HI.out.a.of_all HM1.out.ext) HS.out.a).mono ?_
  rintro e w3 ⟨pa, rfl, hS2, hEW⟩
  clear a5 o4 f4
  replace HM : Hid (Mkg w w3 (exL x m) [.bool false, .int .i64 0, .int .i64 0, .slice none 0 0, .slice none 0 0, .slice none 0 0, .slice none 0 0, .slice none 0 0] [.bool x.ca, .int .i64 x.path, .int .i64 x.usage, .slice ph.ad x.nh ph.cap, .slice pn.1.ad x.nn pn.1.cap, .slice none 0 0, .slice none 0 0, .slice none 0 0]) := hide (Mkg.later HM1.out hEW)
  replace HF := hide (later_and (later_ext HF1.out hEW) (Nat.le_trans HG.out (Nat.le_of_eq HL1.out)) hS2)
  replace HG : Hid (V.heap.size ≤ w3.heap.size) := hide (Nat.le_trans HG.out (Nat.le_trans (Nat.le_of_eq HL1.out) (Below.size hEW)))
  clear hS2 hEW HM1 HF1 HL1
  have a6 := (HM.out.a 6 _ rfl).1
  have o5 := (HM.out.o 5 _ rfl).1
  have f5 := (HM.out.o 5 _ rfl).2
  have HM1 := hide (Mkg.set HM.out 5 (.slice pa.ad x.na pa.cap) (by simp [exL]))
  have HF1 := hide (later_set HF.out HN.out 5 (.slice pa.ad x.na pa.cap))
  have HL1 : Hid (w3.heap.size = (w3.setCell ⟨w.heap.size + 1 + 1, 5, none⟩ (.slice pa.ad x.na pa.cap)).heap.size) := hide (by first | rfl | simp [World.setCell, size_putL])
  go_wp2_with fail
  refine (toStrs_kp m.d x.nd x.fd _ (HI.out.d.of_all HM1.out.ext) HS.out.d).mono ?_
  rintro e w4 ⟨pd, rfl, hS3, hEW⟩
  clear a6 o5 f5
  replace HM : Hid (Mkg w w4 (exL x m) [.bool false, .int .i64 0, .int .i64 0, .slice none 0 0, .slice none 0 0, .slice none 0 0, .slice none 0 0, .slice none 0 0] [.bool x.ca, .int .i64 x.path, .int .i64 x.usage, .slice ph.ad x.nh ph.cap, .slice pn.1.ad x.nn pn.1.cap, .slice pa.ad x.na pa.cap, .slice none 0 0, .slice none 0 0]) := hide (Mkg.later HM1.out hEW)
  replace HF := hide (later_and (later_ext HF1.out hEW) (Nat.le_trans HG.out (Nat.le_of_eq HL1.out)) hS3)
  replace HG : Hid (V.heap.size ≤ w4.heap.size) := hide (Nat.le_trans HG.out (Nat.le_trans (Nat.le_of_eq HL1.out) (Below.size hEW)))
  clear hS3 hEW HM1 HF1 HL1
  have a7 := (HM.out.a 7 _ rfl).1
  have o6 := (HM.out.o 6 _ rfl).1
  have f6 := (HM.out.o 6 _ rfl).2
  have HM1 := hide (Mkg.set HM.out 6 (.slice pd.ad x.nd pd.cap) (by simp [exL]))
  have HF1 := hide (later_set HF.out HN.out 6 (.slice pd.ad x.nd pd.cap))
  have HL1 : Hid (w4.heap.size = (w4.setCell ⟨w.heap.size + 1 + 1, 6, none⟩ (.slice pd.ad x.nd pd.cap)).heap.size) := hide (by first | rfl | simp [World.setCell, size_putL])
  go_wp2_with fail
  refine (toInts_kp m.p x.np x.fp _ (HI.out.p.of_all HM1.out.ext) HS.out.p).mono ?_
  rintro e w5 ⟨pp, rfl, hS4, hEW⟩
  clear a7 o6 f6
  replace HM : Hid (Mkg w w5 (exL x m) [.bool false, .int .i64 0, .int .i64 0, .slice none 0 0, .slice none 0 0, .slice none 0 0, .slice none 0 0, .slice none 0 0] [.bool x.ca, .int .i64 x.path, .int .i64 x.usage, .slice ph.ad x.nh ph.cap, .slice pn.1.ad x.nn pn.1.cap, .slice pa.ad x.na pa.cap, .slice pd.ad x.nd pd.cap, .slice none 0 0]) := hide (Mkg.later HM1.out hEW)
  replace HF := hide (later_and (later_ext HF1.out hEW) (Nat.le_trans HG.out (Nat.le_of_eq HL1.out)) hS4)
  replace HG : Hid (V.heap.size ≤ w5.heap.size) := hide (Nat.le_trans HG.out (Nat.le_trans (Nat.le_of_eq HL1.out) (Below.size hEW)))
  clear hS4 hEW HM1 HF1 HL1
  have o7 := (HM.out.o 7 _ rfl).1
  have f7 := (HM.out.o 7 _ rfl).2
  have HM1 := hide (Mkg.set HM.out 7 (.slice pp.ad x.np pp.cap) (by simp [exL]))
  have HF1 := hide (later_set HF.out HN.out 7 (.slice pp.ad x.np pp.cap))
  obtain ⟨V2, hV2⟩ : ∃ V2, (w5.setCell ⟨w.heap.size + 1 + 1, 7, none⟩ (.slice pp.ad x.np pp.cap)) = V2 := ⟨_, rfl⟩
  have hM1 : Mkg w V2 (exL x m) [.bool false, .int .i64 0, .int .i64 0, .slice none 0 0, .slice none 0 0, .slice none 0 0, .slice none 0 0, .slice none 0 0] (exL x ⟨ph, pn.1, pn.2, pa, pd, pp⟩) := hV2 ▸ HM1.out
  have hF1 := HF1.out
  rw [hV2] at hF1
  have hldE := run_ld (P := Tryz.prog) 48 (exL x ⟨ph, pn.1, pn.2, pa, pd, pp⟩) V2 (by kernel_rfl) (by kernel_rfl) (w.heap.size + 1 + 1) 0 (Blk.ld hM1.o 0 _ (fun j v h => by rw [Nat.zero_add]; exact h))
  have hstE := run_st (P := Tryz.prog) 48 (exL x ⟨ph, pn.1, pn.2, pa, pd, pp⟩) V2 (by kernel_rfl) (by simp [exL, Value.oneCell']) (w.heap.size + 1) 0 (Blk.st hM1.d 0 _ (by simp [exL]))
  have HB3 := hide (Blk.putAll1 hM1.d (vs := exL x ⟨ph, pn.1, pn.2, pa, pd, pp⟩) rfl)
  have HX3 := hide (below_putL (Nat.le_succ _) (exL x ⟨ph, pn.1, pn.2, pa, pd, pp⟩) 0 _ hM1.ext)
  have HF3 := hide (later_put hF1 (Nat.lt_of_succ_lt HN.out) 0 (exL x ⟨ph, pn.1, pn.2, pa, pd, pp⟩))
  clear hM1 hF1 HM1 HF1 HM HF
  go_wp2_with (first | (refine wpList_ld (by first | rfl | simp [Region.wanted, yielded]) 48 _ rfl _ rfl _ hldE ?_) | (refine wpList_st (by first | rfl | simp [Region.wanted, yielded]) 48 _ _ rfl _ rfl _ rfl _ hstE ?_))
  refine bodyPost_ret (v := .agg (exL x ⟨ph, pn.1, pn.2, pa, pd, pp⟩).toArray) (results_at Tryz.results29 rfl (run_ld (P := Tryz.prog) 48 (exL x ⟨ph, pn.1, pn.2, pa, pd, pp⟩) _ (by kernel_rfl) (by kernel_rfl) (w.heap.size + 1) 0 (Blk.ld HB3.out 0 _ (fun j v h => by rw [Nat.zero_add]; exact h)))) rfl ?_
  exact ⟨⟨ph, pn.1, pn.2, pa, pd, pp⟩, rfl, fun w'' k => by have h := HF3.out w'' (k.mono (Nat.le_of_lt (Nat.lt_of_le_of_lt (Nat.le_succ_of_le (Nat.le_succ _)) HN.out))); exact ⟨h.1.1.1.1.2, h.1.1.1.2, h.1.1.2, h.1.2, h.2⟩, HX3.out⟩

set_option maxHeartbeats 12800000 in
set_option maxRecDepth 100000 in
theorem eqExts_same (x : Ex) (m m2 : ExPl) (w : World) (hI : ExIn w x m) (hJ : ExIn w x m2) (hS : ExSm x 1048576) :
    Calls Tryz.prog 38 #[.agg (exL x m).toArray, .agg (exL x m2).toArray] w fun e w' => e = .returned (.bool true) ∧ Ext w w' := by
  obtain ⟨V, hV⟩ : ∃ V, (w.alloc (.cells (exL x m).toArray 48)).alloc (.cells (exL x m2).toArray 48) = V := ⟨_, rfl⟩
  obtain ⟨B0, B1, hE, -⟩ := box2 w (exL x m) (exL x m2) 48 48 (w1 := V) (by rw [← hV]; exact Ext.refl _)
  have HA := hide B0
  have HB := hide B1
  have HE := hide hE
  have HI := hide (hI.ext hE)
  have HJ := hide (hJ.ext hE)
  have HS := hide hS
  clear B0 B1 hE hI hJ hS
  have a0 := (HA.out 0 _ rfl).1
  have b0 := (HB.out 0 _ rfl).1
  have n0 : (x.ca != x.ca) = false := by simp
  have a1 := (HA.out 1 _ rfl).1
  have b1 := (HB.out 1 _ rfl).1
  have n1 : (x.path != x.path) = false := by simp
  have a2 := (HA.out 2 _ rfl).1
  have b2 := (HB.out 2 _ rfl).1
  have n2 : (x.usage != x.usage) = false := by simp
  go_enter Tryz.func38, Tryz.ntmps38
  have a3 := (HA.out 3 _ rfl).1
  have b3 := (HB.out 3 _ rfl).1
  go_wp2_with fail
  refine (eqStringS_same m.h.ad m.h.b m.h.off x.nh m.h.cap x.fh m2.h.ad m2.h.b m2.h.off m2.h.cap V HI.out.h HJ.out.h HS.out.h).mono ?_
  rintro e w3 ⟨rfl, hEW⟩
  replace HA := hide (Blk.ext HA.out hEW (Blk.lt HA.out (by simp [exL])))
  replace HB := hide (Blk.ext HB.out hEW (Blk.lt HB.out (by simp [exL])))
  replace HI := hide (HI.out.ext hEW)
  replace HJ := hide (HJ.out.ext hEW)
  replace HE := hide (Ext.trans HE.out hEW)
  clear hEW a3 b3
  clear a0 b0 n0
  clear a1 b1 n1
  clear a2 b2 n2
  have a4 := (HA.out 4 _ rfl).1
  have b4 := (HB.out 4 _ rfl).1
  go_wp2_with fail
  refine (eqIntSS_same m.n m2.n m.ni m2.ni x.nn x.ln x.fn w3 HI.out.n HJ.out.n HS.out.n HS.out.ns).mono ?_
  rintro e w4 ⟨rfl, hEW⟩
  replace HA := hide (Blk.ext HA.out hEW (Blk.lt HA.out (by simp [exL])))
  replace HB := hide (Blk.ext HB.out hEW (Blk.lt HB.out (by simp [exL])))
  replace HI := hide (HI.out.ext hEW)
  replace HJ := hide (HJ.out.ext hEW)
  replace HE := hide (Ext.trans HE.out hEW)
  clear hEW a4 b4
  have a5 := (HA.out 5 _ rfl).1
  have b5 := (HB.out 5 _ rfl).1
  go_wp2_with fail
  refine (eqStringS_same m.a.ad m.a.b m.a.off x.na m.a.cap x.fa m2.a.ad m2.a.b m2.a.off m2.a.cap w4 HI.out.a HJ.out.a HS.out.a).mono ?_
  rintro e w5 ⟨rfl, hEW⟩
  replace HA := hide (Blk.ext HA.out hEW (Blk.lt HA.out (by simp [exL])))
  replace HB := hide (Blk.ext HB.out hEW (Blk.lt HB.out (by simp [exL])))
  replace HI := hide (HI.out.ext hEW)
  replace HJ := hide (HJ.out.ext hEW)
  replace HE := hide (Ext.trans HE.out hEW)
  clear hEW a5 b5
  have a6 := (HA.out 6 _ rfl).1
  have b6 := (HB.out 6 _ rfl).1
  go_wp2_with fail
  refine (eqStringS_same m.d.ad m.d.b m.d.off x.nd m.d.cap x.fd m2.d.ad m2.d.b m2.d.off m2.d.cap w5 HI.out.d HJ.out.d HS.out.d).mono ?_
  rintro e w6 ⟨rfl, hEW⟩
  replace HA := hide (Blk.ext HA.out hEW (Blk.lt HA.out (by simp [exL])))
  replace HB := hide (Blk.ext HB.out hEW (Blk.lt HB.out (by simp [exL])))
  replace HI := hide (HI.out.ext hEW)
  replace HJ := hide (HJ.out.ext hEW)
  replace HE := hide (Ext.trans HE.out hEW)
  clear hEW a6 b6
  have a7 := (HA.out 7 _ rfl).1
  have b7 := (HB.out 7 _ rfl).1
  go_wp2_with fail
  refine (eqInts_same m.p m2.p x.np x.fp w6 HI.out.p HJ.out.p HS.out.p).mono ?_
  rintro e w7 ⟨rfl, hEW⟩
  replace HA := hide (Blk.ext HA.out hEW (Blk.lt HA.out (by simp [exL])))
  replace HB := hide (Blk.ext HB.out hEW (Blk.lt HB.out (by simp [exL])))
  replace HI := hide (HI.out.ext hEW)
  replace HJ := hide (HJ.out.ext hEW)
  replace HE := hide (Ext.trans HE.out hEW)
  clear hEW a7 b7
  go_wp2
  go_ret
  exact ⟨rfl, HE.out⟩
end

end Go.Proofs.YtigjjkondbdgjaaGreatDoor
