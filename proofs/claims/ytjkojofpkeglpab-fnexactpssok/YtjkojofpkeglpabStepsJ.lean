/- A region that draws its order, step by step, under an invariant J of the world that laying blocks keeps. Nothing of the program. -/
import Derived.Test.YtjkojofpkeglpabStepsC
namespace Go.Proofs.Ytjkojofpkeglpab
set_option linter.unusedVariables false
open Go Go.Sort Go.RowKit

/-- What holds of the world all the while; blocks may be laid. -/
structure Inv where
  J : World → Prop
  up : ∀ w w', J w → Ext w w' → J w'
  w0 : World
  h0 : J w0

/-- Such a world. -/
structure ReJ (I : Inv) where
  val : World
  ok : I.J val

instance (I : Inv) : Inhabited (ReJ I) := ⟨⟨I.w0, I.h0⟩⟩

section
variable {P : Program} {ops : Array Oper} {md : Region.Mode} {Q : Exit → Act → World → Prop}

def anyJ (P : Program) (md : Region.Mode) (ops : Array Oper) (Q : Exit → Act → World → Prop) (I : Inv) (f : Nat) (listed : Array Bool) (a : Act) (W : World) : Prop := I.J W → anyS P md ops Q I.J f listed a (Ext W)

theorem kept_inv {I : Inv} {W : World} (h : I.J W) : Kept I.J (Ext W) := ⟨fun w' k => I.up _ _ h k, fun _ _ h k => h.trans k⟩

theorem anyJ_begin {id : Nat} {a : Act} {w : World} {l : List Oper} (I : Inv) (n : Nat) (hJ : I.J w) (hn : l.length = n) (hm : P.follows .mixedOrders = true) (h : anyJ P .any l.toArray Q I n (Array.replicate n false) a w) : (Code.region id l.toArray true).wp P Q a w := by
  subst hn
  refine wp_region_any hm ?_
  have := any_of_S _ _ _ _ _ (show Ext w { w with drawn := w.drawn + 1 } from ⟨rfl, rfl, rfl, Nat.le_refl _, fun _ _ => rfl⟩) (h hJ)
  simpa using this

/-- The walk of the operations that may be taken first. -/
def headJ (P : Program) (ops : Array Oper) (I : Inv) (N : Act → Prop) : List Oper → Act → Prop
  | [], a => N a
  | o :: rest, a =>
    if Region.wanted o (yielded ops a.tmps) then ∃ v, (∀ p : ReJ I, o.quietAt P a (fun w'' => ∃ q : Regrown, w'' = grow (redrawn p.val q.d) q.os) p.val v) ∧ headJ P ops I N rest (a.put o.dst v)
    else headJ P ops I N rest (a.put o.dst undef)

theorem headJ_nil {I : Inv} {N : Act → Prop} {a : Act} (h : N a) : headJ P ops I N [] a := h
theorem headJ_step {I : Inv} {N : Act → Prop} {o : Oper} {rest : List Oper} {a : Act}
    (h : ∀ K : Act → Prop, (∀ a, headJ P ops I N rest a → K a) → if Region.wanted o (yielded ops a.tmps) then ∃ v, (∀ p : ReJ I, o.quietAt P a (fun w'' => ∃ q : Regrown, w'' = grow (redrawn p.val q.d) q.os) p.val v) ∧ K (a.put o.dst v) else K (a.put o.dst undef)) : headJ P ops I N (o :: rest) a :=
  h _ fun _ k => k

theorem takeJ_list (hsel : Region.noSelect ops = true) (hQ : ∀ c a d v w, Q (.panic c) (a.put d v) w → Q (.panic c) a w) {I : Inv} {W : World} {f : Nat} :
    ∀ (l : List Oper) (k : Nat) (listed : Array Bool) (a : Act), (∀ j, j < l.length → l[j]? = ops[k + j]?) → takeB md ops l.length k listed = true →
    headJ P ops I (fun a' => anyJ P md ops Q I f (setB l.length k listed) a' W) l a → anyJ P md ops Q I (l.length + f) listed a W
  | [], k, listed, a, _, _, h => by
    rw [List.length_nil, Nat.zero_add]
    exact h
  | o :: l, k, listed, a, hl, hB, h => by
    have h0 : ops[k]? = some o := by simpa using (hl 0 (by simp)).symm
    simp only [List.length_cons, takeB, Bool.and_eq_true] at hB
    obtain ⟨⟨hr, hf⟩, hB'⟩ := hB
    have hr' : k ∈ Region.ready md ops listed := by simpa using hr
    have hl' : ∀ j, j < l.length → l[j]? = ops[k + 1 + j]? := fun j hj => by
      have := hl (j + 1) (by simp; omega)
      simpa [Nat.add_assoc, Nat.add_comm 1 j] using this
    rw [List.length_cons, show l.length + 1 + f = (l.length + f) + 1 by omega]
    intro hV
    unfold headJ at h
    by_cases hwa : Region.wanted o (yielded ops a.tmps) = true
    · simp only [hwa, if_true] at h
      obtain ⟨v, hv, hrest⟩ := h
      have hy : YieldsE P ops I.J o v a := Or.inl ⟨hwa, fun w' hw' => by
        exact quiet_up (fun w2 ⟨q, hq⟩ => by rw [hq]; exact below_regrown _ _ _) (hv ⟨w', hw'⟩)⟩
      exact anyS_first h0 (Region.noSelect_spec hsel) (fun c a w => hQ c a _ _ w) _ listed a (Ext W) (kept_inv hV) (Region.free_spec h0 hf) hr' hy (takeJ_list hsel hQ l (k + 1) _ _ hl' hB' hrest hV)
    · simp only [hwa] at h
      have hy : YieldsE P ops I.J o undef a := Or.inr ⟨by simpa using hwa, rfl⟩
      exact anyS_first h0 (Region.noSelect_spec hsel) (fun c a w => hQ c a _ _ w) _ listed a (Ext W) (kept_inv hV) (Region.free_spec h0 hf) hr' hy (takeJ_list hsel hQ l (k + 1) _ _ hl' hB' h hV)

/-- n operations from number k on are taken first. -/
theorem anyJ_take {l : List Oper} {I : Inv} {W : World} {listed : Array Bool} {a : Act} (k n f : Nat) {m : Nat} (hm : n + f = m) (hn : k + n ≤ l.length) (hB : (Region.noSelect l.toArray && takeB md l.toArray n k listed) = true) (hQ : ∀ c a d v w, Q (.panic c) (a.put d v) w → Q (.panic c) a w)
    (h : headJ P l.toArray I (fun a' => anyJ P md l.toArray Q I f (setB n k listed) a' W) ((l.drop k).take n) a) : anyJ P md l.toArray Q I m listed a W := by
  rw [Bool.and_eq_true] at hB
  have hl : ((l.drop k).take n).length = n := by simp; omega
  subst hm
  have := takeJ_list (md := md) (P := P) (Q := Q) (I := I) (W := W) (f := f) hB.1 hQ ((l.drop k).take n) k listed a (fun j hj => by
    rw [hl] at hj
    simp [hj, List.getElem?_drop]) (by rw [hl]; exact hB.2) (by rw [hl]; exact h)
  rwa [hl] at this

/-- One of those that may come up. -/
def stepJ (P : Program) (md : Region.Mode) (ops : Array Oper) (Q : Exit → Act → World → Prop) (I : Inv) (f : Nat) (listed : Array Bool) (i : Nat) (a : Act) (W : World) : Prop :=
  ∀ w, Ext W w → wpOp P ops Q i (fun a' w' => I.J w' ∧ anyJ P md ops Q I f (listed.setIfInBounds i true) a' w') a w

theorem anyJ_all {I : Inv} {W : World} {listed : Array Bool} {a : Act} {f : Nat} (rs : List Nat) (hr : Region.ready md ops listed = rs) (hne : rs ≠ []) (h : ∀ i ∈ rs, stepJ P md ops Q I f listed i a W) : anyJ P md ops Q I (f + 1) listed a W := by
  intro hV
  refine ⟨fun e => absurd (hr ▸ e) hne, fun i hi w hw => wpOp_mono ?_ (h i (hr ▸ hi) w hw)⟩
  rintro a' w' ⟨hx, hk⟩
  exact ⟨Ext w', kept_inv hx, Ext.refl _, hk hx⟩

theorem anyJ_done {I : Inv} {W : World} {listed : Array Bool} {a : Act} (hr : Region.ready md ops listed = []) (h : ∀ w, Ext W w → Q .normal a w) : ∀ f, anyJ P md ops Q I f listed a W
  | 0 => fun _ => ⟨hr, h⟩
  | _ + 1 => fun _ => ⟨fun _ => h, by rw [hr]; simp⟩

theorem anyJ_one {I : Inv} {W : World} {listed : Array Bool} {a : Act} {f : Nat} (i : Nat) (hr : Region.ready md ops listed = [i]) (h : stepJ P md ops Q I f listed i a W) : anyJ P md ops Q I (f + 1) listed a W :=
  anyJ_all [i] hr (by simp) (fun j hj => by rw [List.mem_singleton.1 hj]; exact h)

theorem anyJ_two {I : Inv} {W : World} {listed : Array Bool} {a : Act} {f : Nat} (i j : Nat) (hr : Region.ready md ops listed = [i, j]) (h : stepJ P md ops Q I f listed i a W) (k : stepJ P md ops Q I f listed j a W) : anyJ P md ops Q I (f + 1) listed a W :=
  anyJ_all [i, j] hr (by simp) (fun l hl => by
    rcases List.mem_cons.1 hl with rfl | hl
    · exact h
    · rw [List.mem_singleton.1 hl]; exact k)

/-- The step itself: the operation is run. -/
theorem stepJ_run {I : Inv} {W : World} {listed : Array Bool} {a : Act} {f i : Nat} {o : Oper} (hi : ops[i]? = some o)
    (h : ∀ w, Ext W w → ∀ K : Act → World → Prop, (∀ a' w', I.J w' → anyJ P md ops Q I f (listed.setIfInBounds i true) a' w' → K a' w') → if Region.wanted o (yielded ops a.tmps) then o.wp P a w K Q else K (a.put o.dst undef) w) : stepJ P md ops Q I f listed i a W := by
  intro w hw
  have k := h w hw (fun a' w' => I.J w' ∧ anyJ P md ops Q I f (listed.setIfInBounds i true) a' w') (fun a' w' hx hr => ⟨hx, hr⟩)
  unfold wpOp
  rw [hi]
  by_cases hwa : Region.wanted o (yielded ops a.tmps) = true
  · simp only [hwa, if_true] at k ⊢
    exact Or.inl k
  · simp only [hwa] at k ⊢
    exact k

end

end Go.Proofs.Ytjkojofpkeglpab
