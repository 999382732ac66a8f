/- A region that draws its order, step by step: what only reads or lays blocks is taken first, of what else may come up each is gone through. Nothing of the program. -/
import Derived.Test.YtjpdllhhganbpaaHeads
namespace Go.Proofs.Ytjpdllhhganbpaa
set_option linter.unusedVariables false
open Go Go.Sort Go.RowKit

section
variable {P : Program} {ops : Array Oper} {md : Region.Mode} {Q : Exit → Act → World → Prop}

/-- Whatever order is picked from here on, in every world that is W with blocks laid behind it; what is read lies in V, the world in which the region began. -/
def anyW (P : Program) (md : Region.Mode) (ops : Array Oper) (Q : Exit → Act → World → Prop) (V : World) (f : Nat) (listed : Array Bool) (a : Act) (W : World) : Prop := Ext V W → anyS P md ops Q (Ext V) f listed a (Ext W)

theorem kept_ext {V W : World} (h : Ext V W) : Kept (Ext V) (Ext W) := ⟨fun _ k => h.trans k, fun _ _ h k => h.trans k⟩

theorem anyW_begin {id : Nat} {a : Act} {w : World} {l : List Oper} (n : Nat) (hn : l.length = n) (hm : P.follows .mixedOrders = true) (h : anyW P .any l.toArray Q w n (Array.replicate n false) a w) : (Code.region id l.toArray true).wp P Q a w := by
  subst hn
  refine wp_region_any hm ?_
  have := any_of_S _ _ _ _ _ (show Ext w { w with drawn := w.drawn + 1 } from ⟨rfl, rfl, rfl, Nat.le_refl _, fun _ _ => rfl⟩) (h (Ext.refl w))
  simpa using this

/-- Operations k, k + 1 .. may be taken one after the other. -/
def takeB (md : Region.Mode) (ops : Array Oper) : Nat → Nat → Array Bool → Bool
  | 0, _, _ => true
  | n + 1, k, listed => (Region.ready md ops listed).contains k && Region.free md ops listed k && takeB md ops n (k + 1) (listed.setIfInBounds k true)

def setB : Nat → Nat → Array Bool → Array Bool
  | 0, _, L => L
  | n + 1, k, L => setB n (k + 1) (L.setIfInBounds k true)

theorem take_list (hsel : Region.noSelect ops = true) (hQ : ∀ c a d v w, Q (.panic c) (a.put d v) w → Q (.panic c) a w) {V W : World} {f : Nat} :
    ∀ (l : List Oper) (k : Nat) (listed : Array Bool) (a : Act), (∀ j, j < l.length → l[j]? = ops[k + j]?) → takeB md ops l.length k listed = true →
    headS P ops V (fun a' => anyW P md ops Q V f (setB l.length k listed) a' W) l a → anyW P md ops Q V (l.length + f) listed a W
  | [], k, listed, a, _, _, h => by
    rw [List.length_nil, Nat.zero_add]
    exact h
  | o :: l, k, listed, a, hl, hB, h => by
    have h0 : ops[k]? = some o := by simpa using (hl 0 (by simp)).symm
    simp only [List.length_cons, takeB, Bool.and_eq_true] at hB
    obtain ⟨⟨hr, hf⟩, hB'⟩ := hB
    have hr' : k ∈ Region.ready md ops listed := by simpa using hr
    have hl' : ∀ j, j < l.length → l[j]? = ops[k + 1 + j]? := fun j hj => by
      have := hl (j + 1) (by simp; omega)
      simpa [Nat.add_assoc, Nat.add_comm 1 j] using this
    rw [List.length_cons, show l.length + 1 + f = (l.length + f) + 1 by omega]
    intro hV
    unfold headS at h
    by_cases hwa : Region.wanted o (yielded ops a.tmps) = true
    · simp only [hwa, if_true] at h
      obtain ⟨v, hv, hrest⟩ := h
      have hy : YieldsE P ops (Ext V) o v a := Or.inl ⟨hwa, fun w' hw' => by
        obtain ⟨p, rfl⟩ := regrown_of_below hw'
        exact quiet_up (fun w2 ⟨q, hq⟩ => by rw [hq]; exact below_regrown _ _ _) (hv p)⟩
      exact anyS_first h0 (Region.noSelect_spec hsel) (fun c a w => hQ c a _ _ w) _ listed a (Ext W) (kept_ext hV) (Region.free_spec h0 hf) hr' hy (take_list hsel hQ l (k + 1) _ _ hl' hB' hrest hV)
    · simp only [hwa] at h
      have hy : YieldsE P ops (Ext V) o undef a := Or.inr ⟨by simpa using hwa, rfl⟩
      exact anyS_first h0 (Region.noSelect_spec hsel) (fun c a w => hQ c a _ _ w) _ listed a (Ext W) (kept_ext hV) (Region.free_spec h0 hf) hr' hy (take_list hsel hQ l (k + 1) _ _ hl' hB' h hV)

/-- n operations from number k on are taken first. -/
theorem anyW_take {l : List Oper} {V W : World} {listed : Array Bool} {a : Act} (k n f : Nat) {m : Nat} (hm : n + f = m) (hn : k + n ≤ l.length) (hB : (Region.noSelect l.toArray && takeB md l.toArray n k listed) = true) (hQ : ∀ c a d v w, Q (.panic c) (a.put d v) w → Q (.panic c) a w)
    (h : headS P l.toArray V (fun a' => anyW P md l.toArray Q V f (setB n k listed) a' W) ((l.drop k).take n) a) : anyW P md l.toArray Q V m listed a W := by
  rw [Bool.and_eq_true] at hB
  have hl : ((l.drop k).take n).length = n := by simp; omega
  subst hm
  have := take_list (md := md) (P := P) (Q := Q) (V := V) (W := W) (f := f) hB.1 hQ ((l.drop k).take n) k listed a (fun j hj => by
    rw [hl] at hj
    simp [hj, List.getElem?_drop]) (by rw [hl]; exact hB.2) (by rw [hl]; exact h)
  rwa [hl] at this

/-- One of those that may come up. -/
def stepW (P : Program) (md : Region.Mode) (ops : Array Oper) (Q : Exit → Act → World → Prop) (V : World) (f : Nat) (listed : Array Bool) (i : Nat) (a : Act) (W : World) : Prop :=
  ∀ w, Ext W w → wpOp P ops Q i (fun a' w' => Ext V w' ∧ anyW P md ops Q V f (listed.setIfInBounds i true) a' w') a w

theorem anyW_all {V W : World} {listed : Array Bool} {a : Act} {f : Nat} (rs : List Nat) (hr : Region.ready md ops listed = rs) (hne : rs ≠ []) (h : ∀ i ∈ rs, stepW P md ops Q V f listed i a W) : anyW P md ops Q V (f + 1) listed a W := by
  intro hV
  refine ⟨fun e => absurd (hr ▸ e) hne, fun i hi w hw => wpOp_mono ?_ (h i (hr ▸ hi) w hw)⟩
  rintro a' w' ⟨hx, hk⟩
  exact ⟨Ext w', kept_ext hx, Ext.refl _, hk hx⟩

theorem anyW_done {V W : World} {listed : Array Bool} {a : Act} (hr : Region.ready md ops listed = []) (h : ∀ w, Ext W w → Q .normal a w) : ∀ f, anyW P md ops Q V f listed a W
  | 0 => fun _ => ⟨hr, h⟩
  | _ + 1 => fun _ => ⟨fun _ => h, by rw [hr]; simp⟩

theorem anyW_one {V W : World} {listed : Array Bool} {a : Act} {f : Nat} (i : Nat) (hr : Region.ready md ops listed = [i]) (h : stepW P md ops Q V f listed i a W) : anyW P md ops Q V (f + 1) listed a W :=
  anyW_all [i] hr (by simp) (fun j hj => by rw [List.mem_singleton.1 hj]; exact h)

theorem anyW_two {V W : World} {listed : Array Bool} {a : Act} {f : Nat} (i j : Nat) (hr : Region.ready md ops listed = [i, j]) (h : stepW P md ops Q V f listed i a W) (k : stepW P md ops Q V f listed j a W) : anyW P md ops Q V (f + 1) listed a W :=
  anyW_all [i, j] hr (by simp) (fun l hl => by
    rcases List.mem_cons.1 hl with rfl | hl
    · exact h
    · rw [List.mem_singleton.1 hl]; exact k)

/-- The step itself: the operation is run. -/
theorem stepW_run {V W : World} {listed : Array Bool} {a : Act} {f i : Nat} {o : Oper} (hi : ops[i]? = some o)
    (h : ∀ w, Ext W w → ∀ K : Act → World → Prop, (∀ a' w', Ext V w' → anyW P md ops Q V f (listed.setIfInBounds i true) a' w' → K a' w') → if Region.wanted o (yielded ops a.tmps) then o.wp P a w K Q else K (a.put o.dst undef) w) : stepW P md ops Q V f listed i a W := by
  intro w hw
  have k := h w hw (fun a' w' => Ext V w' ∧ anyW P md ops Q V f (listed.setIfInBounds i true) a' w') (fun a' w' hx hr => ⟨hx, hr⟩)
  unfold wpOp
  rw [hi]
  by_cases hwa : Region.wanted o (yielded ops a.tmps) = true
  · simp only [hwa, if_true] at k ⊢
    exact Or.inl k
  · simp only [hwa] at k ⊢
    exact k

end

end Go.Proofs.Ytjpdllhhganbpaa
