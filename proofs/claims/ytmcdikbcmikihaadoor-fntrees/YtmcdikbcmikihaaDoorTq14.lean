/- A region that draws its order inside the body of a range over a function: what holds of it outside holds there too, where it defers nothing. Nothing of the program. -/
import Derived.OrdersIn
import Derived.RangeFuncCalls
import Derived.Test.YtmcdikbcmikihaaDoorTq02
namespace Go.Proofs.YtmcdikbcmikihaaDoor

section
set_option linter.unusedVariables false

open Go Go.Sort Go.RowKit

section

variable {P : Program} {ops : Array Oper} {md : Region.Mode} {Q : Exit → Act → World → Prop} {n : Nat}

theorem rowsIn_all {row : String} {args : Array Value} {w : World} {R : Value → World → Prop} (h : Rows P row args w R) : RowsIn Fence.wide n P row args w R :=
  fun c cs _ => let ⟨v, w', r, s⟩ := h c cs; ⟨v, w', r, stepsIn_wide.2 s⟩

/-- No operation defers. -/
def noDefer (ops : Array Oper) : Bool := ops.all fun o => match o.op with | .defer _ => false | _ => true

theorem noDefer_spec (h : noDefer ops = true) {i : Nat} {o : Oper} (hi : ops[i]? = some o) : ∀ c, o.op ≠ .defer c := by
  intro c hc
  unfold noDefer at h
  rw [Array.all_eq_true_iff_forall_mem] at h
  have := h o (Array.mem_of_getElem? hi)
  rw [hc] at this
  cases this

theorem wpIn_of_wp {o : Oper} (hd : ∀ c, o.op ≠ .defer c) (l : Nat) {a : Act} {w : World} {K K' : Act → World → Prop} (hK : ∀ a w, K a w → K' a w) (h : o.wp P a w K Q) : o.wpIn (Fence.wide.inRound l) n P a w K' Q := by
  refine ⟨fun _ _ => trivial, ?_⟩
  rw [Oper.semAt_eq _ _ _ hd]
  unfold Oper.wp at h
  generalize (execOp a.eval o).run P w = r at *
  cases r with
  | ok x w' =>
    cases x <;> simp only [Oper.upon] at h <;> simp only [Oper.uponIn]
    case value => exact hK _ _ h
    case skip => exact hK _ _ h
    case defer => exact hK _ _ h
    case enter f args =>
      refine ⟨fun e => (by cases e), ?_⟩
      refine CallsIn.inRound l (callsIn_wide.2 (h.mono ?_))
      intro e w'' he
      cases e <;> first | exact hK _ _ he | exact he
    case row r args =>
      refine ⟨fun e => (by cases e), ?_⟩
      exact rowsIn_all (h.mono fun v w'' he => hK _ _ he)
  | halt x w' => cases x <;> simp only [Oper.upon] at h <;> simp only [Oper.uponIn] <;> exact h

theorem wpAnyIn_of_wpAny (hn : noDefer ops = true) (hL : ¬ LetsOut Q) (l : Nat) : ∀ (f : Nat) (listed : Array Bool) (a : Act) (w : World), wpAny P md ops Q f listed a w → wpAnyIn (Fence.wide.inRound l) n P md ops Q f listed a w
  | 0, _, _, _, h => h
  | f + 1, listed, a, w, h => by
    refine ⟨h.1, fun i hi => ?_⟩
    have k := h.2 i hi
    unfold wpOp at k
    unfold wpOpIn
    cases ho : ops[i]? with
    | none => rw [ho] at k; exact wpAnyIn_of_wpAny hn hL l f _ _ _ k
    | some o =>
      rw [ho] at k
      simp only at k ⊢
      by_cases hw : Region.wanted o (yielded ops a.tmps) = true
      · rw [if_pos hw] at k ⊢
        rcases k with k | ⟨-, k⟩
        · exact wpIn_of_wp (noDefer_spec hn ho) l (fun a w h => wpAnyIn_of_wpAny hn hL l f _ a w h) k
        · exact absurd k hL
      · rw [if_neg hw] at k ⊢
        exact ⟨fun _ _ => trivial, wpAnyIn_of_wpAny hn hL l f _ _ _ k⟩

/-- As anyK_begin, in the body of a range over a function. -/
theorem anyK_beginR {id : Nat} {a : Act} {w : World} {r : List Oper} (X : Nat → Prop) (m : Nat) (hm0 : r.length = m) (hm : P.follows .mixedOrders = true) (hn : noDefer r.toArray = true) (hL : ¬ LetsOut Q) (l : Nat) (h : anyK P .any r.toArray Q X w m (Array.replicate m false) a w) : (Go.Code.region id r.toArray true).wpIn (Fence.wide.inRound l) n P Q a w := by
  subst hm0
  refine wpIn_region_any hm ?_
  have := any_of_S _ _ _ _ _ (show Ext w { w with drawn := w.drawn + 1 } from ⟨rfl, rfl, rfl, Nat.le_refl _, fun _ _ => rfl⟩) (h (Grw.refl X w))
  exact wpAnyIn_of_wpAny hn hL l _ _ _ _ (by simpa using this)

end
end

end Go.Proofs.YtmcdikbcmikihaaDoor
