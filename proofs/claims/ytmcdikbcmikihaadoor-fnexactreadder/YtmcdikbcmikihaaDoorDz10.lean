/- A scope in which the run jumps to labels of its own, inside a fence. Nothing of the program. A range over an iterator that keeps cells of its own between two rounds, and a body that makes memory of its own in a round: O tells whose a block is: the iterator's (and the loop's record). A round keeps what is O's, the iterator turns nothing but what is O's. Nothing of the program. As range_ownO, where what the round assigns lies in memory of its own, and the iterator tells what may come behind what has come. Nothing of the program. Walks: the program's iterator below, for a caller that makes memory of its own in a round. Lists of numbers that are one's own: cut, read. Nothing of the program. A list of items whose fields are set one by one. -/
import Derived.ControlIn
import Derived.Scope
import Derived.WalkKit
import Derived.Test.YtmcdikbcmikihaaDoorDz02
import Derived.Test.YtmcdikbcmikihaaDoorDz01
import Derived.Maps.OwnIn
import Derived.Test.YtmcdikbcmikihaaDoorDz03
namespace Go.Proofs.YtmcdikbcmikihaaDoor

section
set_option linter.unusedVariables false

open Go

theorem stepR_scope {P : Program} {b : Frame} {a : Act} {k : List Item} {cs : List Frame} {w : World} {c : Code} : step P (lone (b.atR a (.code (.scope c) :: k)) cs w) = .next (lone (b.atR a (.code c :: .inScope c :: k)) cs w) :=
  step_lone_go (by simp [stepG, stepG.exec, Frame.atR])

theorem stepR_inScope {P : Program} {b : Frame} {a : Act} {k : List Item} {cs : List Frame} {w : World} {c : Code} : step P (lone (b.atR a (.inScope c :: k)) cs w) = .next (lone (b.atR a k) cs w) :=
  step_lone_go (by simp [stepG, stepG.exec, Frame.atR])

/-- As Q; by a goto to a label l: J l. -/
def jumpsTo (J : Nat → Act → World → Prop) (Q : Exit → Act → World → Prop) : Exit → Act → World → Prop
  | .goto l, a, w => J l a w
  | e, a, w => Q e a w

theorem wpIn_scope_jumps {F : Fence} {n : Nat} {P : Program} {Q : Exit → Act → World → Prop} {a : Act} {w : World} {c : Code} (J : Nat → Act → World → Prop) (μ : Nat → Act → World → Nat)
    (first : c.wpIn F n P (jumpsTo J Q) a w)
    (pass : ∀ l a w, J l a w → ∃ rest, findLabel c l = some rest ∧ rest.wpIn F n P (jumpsTo (fun l' a' w' => J l' a' w' ∧ μ l' a' w' < μ l a w) Q) a w) : (Code.scope c).wpIn F n P Q a w := by
  intro b k cs hro hb hr
  have fin : ∀ {m : Machine} {e : Exit} {a' : Act} {w' : World}, (∀ l, e ≠ .goto l) → ArrivesIn (Machine.fenced P F) P m b (.inScope c :: k) cs e a' w' → ArrivesIn (Machine.fenced P F) P m b k cs e a' w' := by
    intro m e a' w' hne h
    cases e with
    | normal => exact StepsIn.trans h (.one (fenced_calm hb hr rfl) stepR_inScope)
    | exit id =>
      have hx : exitTo id (.inScope c :: k) = exitTo id k := by simp [exitTo]
      exact ⟨fun k' hk => h.1 k' (by rw [hx]; exact hk), fun hr' hk => h.2 hr' (by rw [hx]; exact hk)⟩
    | goto l => exact absurd rfl (hne l)
    | ret => exact h
    | panic ch => exact h
    | outgrown => exact h
  have key : ∀ j l a w, μ l a w = j → J l a w → ∀ rest, findLabel c l = some rest →
      ∃ e a' w', Q e a' w' ∧ ArrivesIn (Machine.fenced P F) P (lone (b.atR a (.code rest :: .inScope c :: k)) cs w) b k cs e a' w' := by
    intro j
    induction j using Nat.strongRecOn with
    | _ j ih =>
      intro l a w hj hJ rest hf
      obtain ⟨rest', hf', hp⟩ := pass l a w hJ
      rw [hf] at hf'
      obtain rfl := Option.some.inj hf'
      obtain ⟨e, a₁, w₁, hq, harr⟩ := hp b (.inScope c :: k) cs hro hb hr
      cases e with
      | goto l' =>
        obtain ⟨hJ', hlt⟩ := hq
        obtain ⟨rest2, hf2, -⟩ := pass l' a₁ w₁ hJ'
        obtain ⟨e₂, a₂, w₂, hq₂, harr₂⟩ := ih _ (hj ▸ hlt) l' a₁ w₁ rfl hJ' rest2 hf2
        exact ⟨e₂, a₂, w₂, hq₂, .of_steps (harr.1 _ (by simp [gotoIn, hf2])) harr₂⟩
      | normal => exact ⟨_, a₁, w₁, hq, fin (fun l => by simp) harr⟩
      | exit id => exact ⟨_, a₁, w₁, hq, fin (fun l => by simp) harr⟩
      | ret => exact ⟨_, a₁, w₁, hq, fin (fun l => by simp) harr⟩
      | panic ch => exact ⟨_, a₁, w₁, hq, fin (fun l => by simp) harr⟩
      | outgrown => exact ⟨_, a₁, w₁, hq, fin (fun l => by simp) harr⟩
  have h0 : (lone (b.atR a (.code (.scope c) :: k)) cs w).fenced P F := fenced_calm hb hr rfl
  obtain ⟨e, a₁, w₁, hq, harr⟩ := first b (.inScope c :: k) cs hro hb hr
  cases e with
  | goto l' =>
    obtain ⟨rest2, hf2, -⟩ := pass l' a₁ w₁ hq
    obtain ⟨e₂, a₂, w₂, hq₂, harr₂⟩ := key _ l' a₁ w₁ rfl hq rest2 hf2
    exact ⟨e₂, a₂, w₂, hq₂, .of_steps (.head h0 stepR_scope (harr.1 _ (by simp [gotoIn, hf2]))) harr₂⟩
  | normal => exact ⟨_, a₁, w₁, hq, .of_steps (.one h0 stepR_scope) (fin (fun l => by simp) harr)⟩
  | exit id => exact ⟨_, a₁, w₁, hq, .of_steps (.one h0 stepR_scope) (fin (fun l => by simp) harr)⟩
  | ret => exact ⟨_, a₁, w₁, hq, .of_steps (.one h0 stepR_scope) (fin (fun l => by simp) harr)⟩
  | panic ch => exact ⟨_, a₁, w₁, hq, .of_steps (.one h0 stepR_scope) (fin (fun l => by simp) harr)⟩
  | outgrown => exact ⟨_, a₁, w₁, hq, .of_steps (.one h0 stepR_scope) (fin (fun l => by simp) harr)⟩

/-- Two labels: what runs from the second one is proved first, then what runs from the first one. -/
theorem wpIn_scope_two {F : Fence} {n : Nat} {P : Program} {Q : Exit → Act → World → Prop} {a : Act} {w : World} {c X0 X1 : Code} (h0 : findLabel c 0 = some (.seq .skip X0)) (h1 : findLabel c 1 = some (.seq .skip X1)) (J : Nat → Act → World → Prop) (μ : Nat → Act → World → Nat) (hJ : ∀ l a w, J l a w → l = 0 ∨ l = 1)
    (leaf1 : ∀ M a w, J 1 a w → μ 1 a w ≤ M → X1.wpIn F n P (jumpsTo (fun l' a' w' => J l' a' w' ∧ μ l' a' w' < M) Q) a w)
    (leaf0 : (∀ M a w, J 1 a w → μ 1 a w ≤ M → X1.wpIn F n P (jumpsTo (fun l' a' w' => J l' a' w' ∧ μ l' a' w' < M) Q) a w) → ∀ M a w, J 0 a w → μ 0 a w ≤ M → X0.wpIn F n P (jumpsTo (fun l' a' w' => J l' a' w' ∧ μ l' a' w' < M) Q) a w)
    (first : (∀ a w, J 0 a w → X0.wpIn F n P (jumpsTo J Q) a w) → c.wpIn F n P (jumpsTo J Q) a w) : (Code.scope c).wpIn F n P Q a w := by
  refine wpIn_scope_jumps J μ (first fun a w h => wpIn_mono (leaf0 leaf1 _ a w h (Nat.le_refl _)) ?_) fun l a w h => ?_
  · intro e a' w' q
    cases e with
    | goto l => exact q.1
    | _ => exact q
  · rcases hJ l a w h with rfl | rfl
    · refine ⟨_, h0, wpIn_seq (wpIn_skip ?_)⟩
      exact leaf0 leaf1 _ a w h (Nat.le_refl _)
    · refine ⟨_, h1, wpIn_seq (wpIn_skip ?_)⟩
      exact leaf1 _ a w h (Nat.le_refl _)
end

section
set_option linter.unusedVariables false
set_option linter.unusedSimpArgs false

open Go Go.RowKit

/-- A step of the iterator's: what is not O's lies as it lay; what is new is O's. -/
structure Stp (O : Nat → Prop) (A : World) (O' : Nat → Prop) (C : World) : Prop where
  os : C.os = A.os
  tape : C.tape = A.tape
  output : C.output = A.output
  size : A.heap.size ≤ C.heap.size
  same : ∀ k, k < A.heap.size → ¬ O k → C.heap[k]? = A.heap[k]?
  own : ∀ k, O' k ↔ O k ∨ (A.heap.size ≤ k ∧ k < C.heap.size)

def AbO (I : (Nat → Prop) → World → Prop) : Prop := ∀ O O' A C, I O A → Stp O A O' C → I O' C

/-- A round's word: what is O's, and what X tells, lies as it lay. -/
structure RdO (X O : Nat → Prop) (W W' : World) : Prop where
  os : W'.os = W.os
  tape : W'.tape = W.tape
  output : W'.output = W.output
  size : W.heap.size ≤ W'.heap.size
  same : ∀ k, (O k ∨ X k) → k < W.heap.size → W'.heap[k]? = W.heap[k]?

theorem RdO.refl (X O : Nat → Prop) (W : World) : RdO X O W W := ⟨rfl, rfl, rfl, Nat.le_refl _, fun _ _ _ => rfl⟩

theorem RdO.trans {X O : Nat → Prop} {A C D : World} (h : RdO X O A C) (k : RdO X O C D) : RdO X O A D :=
  ⟨k.os.trans h.os, k.tape.trans h.tape, k.output.trans h.output, Nat.le_trans h.size k.size, fun i hi hl => (k.same i hi (Nat.lt_of_lt_of_le hl h.size)).trans (h.same i hi hl)⟩

theorem RdO.sub {X O O' : Nat → Prop} {A D : World} (h : RdO X O A D) (hs : ∀ k, O' k → O k) : RdO X O' A D := ⟨h.os, h.tape, h.output, h.size, fun i hi hl => h.same i (hi.imp (hs i) id) hl⟩

theorem stp_put {O : Nat → Prop} {A : World} {l : Nat} (h : O l) (o : Obj) : Stp O A O (A.putObj l o) :=
  ⟨rfl, rfl, rfl, by simp, fun k _ hk => World.putObj_heap_other (by rintro rfl; exact hk h), fun k => ⟨.inl, fun h => h.elim id (fun ⟨h1, h2⟩ => by simp at h2; omega)⟩⟩

theorem rdo_put {X O : Nat → Prop} {A : World} {l : Nat} (h : ¬ O l) (hx : ¬ X l) (o : Obj) : RdO X O A (A.putObj l o) :=
  ⟨rfl, rfl, rfl, by simp, fun k hk _ => World.putObj_heap_other (by rintro rfl; rcases hk with hk | hk; exact h hk; exact hx hk)⟩

def bodyEndsO {α : Type} (X O : Nat → Prop) (I : (Nat → Prop) → List α → World → Prop) (Ix : Code → (Nat → Prop) → List α → World → Prop) (xs : List α) (W : World) : Exit → Act → World → Prop
  | .normal, _, W' => RdO X O W W' ∧ I O xs W'
  | .ret, _, W' => RdO X O W W' ∧ Ix .ret O xs W'
  | .exit i, _, W' => RdO X O W W' ∧ Ix (.exit i) O xs W'
  | _, _, _ => False
end

section
set_option linter.unusedVariables false
set_option linter.unusedSimpArgs false

open Go Go.RowKit

/-- The iterator's word; V tells what may come behind what has come. -/
def TellsV {α : Type} (n : Nat) (P : Program) (g : Nat) (lb : Array Value) (encs : α → Array Value) (V : List α → α → Prop) (S Sp : List α → Prop) (N : Nat) (X : Nat → Prop) (w0 : World) : Prop :=
  ∀ (l : Nat) (J Jx : (Nat → Prop) → List α → World → Prop) (W : World), Below w0.heap.size w0 W → (∀ s, AbO (fun O => J O s)) → (∀ s, AbO (fun O => Jx O s)) →
    (∀ O pre x W1, J O pre W1 → V pre x → (∀ k, O k → W.heap.size ≤ k ∧ k < W1.heap.size) → W.heap.size ≤ W1.heap.size → pre.length < N → YieldAt Fence.wide (n - 1) P l (encs x) W1 fun e W' =>
      (e = .returned (.bool true) ∧ J O (pre ++ [x]) W' ∧ RdO X O W1 W') ∨ (e = .returned (.bool false) ∧ Jx O (pre ++ [x]) W')) →
    J (fun _ => False) [] W →
    CallsIn Fence.wide n P g (#[.func (.yield l) #[] #[]] ++ lb) W fun e W' => (∃ v, e = .returned v) ∧ ((∃ xs O, S xs ∧ J O xs W') ∨ (∃ pre O, Sp pre ∧ Jx O pre W'))

set_option maxHeartbeats 800000 in
theorem range_ownV {P : Program} {n : Nat} {α : Type} {g : Operand} {ps : Array Tmp} {assign body : Code} {Q : Exit → Act → World → Prop} {a : Act} {w : World} (h1 : 1 ≤ n)
    {gf : Nat} {lb : Array Value} (hg : a.eval g = .func (.func gf) #[] lb) (eg : ∀ args w, (callFunc gf args).run P w = .ok (.enter gf args) w)
    {encs : α → Array Value} {V : List α → α → Prop} {S Sp : List α → Prop} {N : Nat} {X : Nat → Prop} {w0 : World} (hX : ∀ k, X k → k < w0.heap.size) (hseq : TellsV (n - 1) P gf lb encs V S Sp N X w0) (hb0 : Below w0.heap.size w0 w) (hps : ∀ x, (encs x).size = ps.size)
    (I : (Nat → Prop) → List α → World → Prop) (Ix : Code → (Nat → Prop) → List α → World → Prop) (hI : ∀ s, AbO (fun O => I O s)) (hIx : ∀ c s, AbO (fun O => Ix c O s)) (hIe : ∀ O s A C, I O s A → Ext A C → I O s C) (h0 : I (fun _ => False) [] w) (Wx : α → World → World) (hWx : ∀ x W, Ext W (Wx x W)) (Ax : α → World → Act)
    (hassign : ∀ (l : Nat) (x : α) (W : World) (K : Act → World → Prop), K (Ax x W) (Wx x W) →
      assign.wpIn (Fence.wide.inRound l) (n - 1 - 1) P (Exit.then K (fun _ _ _ => False)) { tmps := (ps.zip (encs x)).foldl (fun t (p, v) => t.setIfInBounds p v) a.tmps, defers := [] } W)
    (hbody : ∀ (l : Nat) (O : Nat → Prop) (pre : List α) (x : α) (W0 W : World), I O pre W → V pre x → (∀ k, O k → w.heap.size ≤ k ∧ k < W0.heap.size) → w.heap.size + 2 ≤ W0.heap.size → (∀ k, k ≠ w.heap.size + 1 → W.heap[k]? = (Wx x W0).heap[k]?) → W.heap.size = (Wx x W0).heap.size → pre.length < N → body.wpIn (Fence.wide.inRound l) (n - 1 - 1) P (bodyEndsO X O I Ix (pre ++ [x]) W) (Ax x W0) W)
    (hdone : ∀ (O : Nat → Prop) (xs : List α) (W : World), S xs → I O xs W → O w.heap.size → w.heap.size < W.heap.size → W.heap[w.heap.size]? = some (.deferred (some [])) → Q .normal { a with defers := { target := .collected w.heap.size, args := #[] } :: a.defers } W)
    (hstop : ∀ (c : Code) (O : Nat → Prop) (pre : List α) (W : World), Sp pre → Ix c O pre W → O w.heap.size → w.heap.size < W.heap.size → W.heap[w.heap.size]? = some (.deferred (some [])) → c.wpIn Fence.wide n P Q { a with defers := { target := .collected w.heap.size, args := #[] } :: a.defers } W) :
    (Code.rangeFunc g ps assign body).wpIn Fence.wide n P Q a w := by
  refine wpIn_rangeFunc (fun fn hfn => ?_)
  obtain ⟨R, hR⟩ : ∃ R : LoopState → Option Code → Loop, R = fun st pe => { state := st, pending := pe, fn := fn, tmps := a.tmps, params := ps, assign := assign, body := body, defers := w.heap.size } := ⟨_, rfl⟩
  obtain ⟨VV, hV⟩ : ∃ VV, (w.alloc (.deferred (some []))).alloc (.loop (R .ready none)) = VV := ⟨_, rfl⟩
  have sV : VV.heap.size = w.heap.size + 2 := by rw [← hV]; simp
  have bV : Below w.heap.size w VV := by rw [← hV]; exact ((Below.refl _ _).alloc (Nat.le_refl _) _).alloc (by simp) _
  have rV : VV.heap[w.heap.size + 1]? = some (.loop (R .ready none)) := by
    rw [← hV]
    have := World.alloc_heap_new (w.alloc (.deferred (some []))) (.loop (R .ready none))
    rwa [World.size_alloc] at this
  have dV : VV.heap[w.heap.size]? = some (.deferred (some [])) := by
    rw [← hV]
    exact (Below.heap_alloc _ _ _ (by simp)).trans (World.alloc_heap_new w _)
  refine ⟨w.heap.size + 1, [{ target := .collected w.heap.size, args := #[] }], VV, { target := .fn (.func gf) lb, args := #[.func (.yield (w.heap.size + 1)) #[] #[]] }, VV, gf, #[.func (.yield (w.heap.size + 1)) #[] #[]] ++ lb, VV, ?e1, ?e2, fun _ _ => trivial, ?e3, fun _ => h1, ?e4⟩
  case e1 => rw [← hV, hR]; exact run_enterLoop_outer _ _ _ _ _
  case e2 =>
    simp only [resolve, hg]
    simp [go_sem]
  case e3 => simp [invoke, go_sem, eg]
  case e4 =>
    obtain ⟨Pl, hPl⟩ : ∃ Pl : (Nat → Prop) → Nat → Prop, Pl = fun O k => O k ∨ k = w.heap.size ∨ k = w.heap.size + 1 := ⟨_, rfl⟩
    have pd : ∀ O, Pl O w.heap.size := fun O => by rw [hPl]; exact .inr (.inl rfl)
    have pr : ∀ O, Pl O (w.heap.size + 1) := fun O => by rw [hPl]; exact .inr (.inr rfl)
    -- a step of the iterator's is one beside the loop's record
    have up : ∀ {O O' : Nat → Prop} {A C : World}, Stp O A O' C → Stp (Pl O) A (Pl O') C := fun h => ⟨h.os, h.tape, h.output, h.size, fun k hk hn => h.same k hk (fun ho => hn (by rw [hPl]; exact .inl ho)), fun k => by
      rw [hPl]
      simp only [h.own k]
      constructor
      · rintro ((h | h) | h)
        · exact .inl (.inl h)
        · exact .inr h
        · exact .inl (.inr h)
      · rintro ((h | h) | h)
        · exact .inl (.inl h)
        · exact .inr h
        · exact .inl (.inr h)⟩
    have ab : ∀ (T : (Nat → Prop) → World → Prop) (o1 : Obj), AbO T → AbO (fun O W => T (Pl O) W ∧ W.heap[w.heap.size + 1]? = some o1 ∧ W.heap[w.heap.size]? = some (.deferred (some [])) ∧ ∀ k, O k → w.heap.size + 2 ≤ k) := by
      rintro T o1 hT O O' A C ⟨t, r, d, hO⟩ h
      have l1 : w.heap.size + 1 < A.heap.size := (Array.getElem?_eq_some_iff.1 r).1
      refine ⟨hT _ _ _ _ t (up h), (h.same _ l1 (fun ho => by have := hO _ ho; omega)).trans r, (h.same _ (by omega) (fun ho => by have := hO _ ho; omega)).trans d, fun k hk => ?_⟩
      rcases (h.own k).1 hk with h | h
      · exact hO k h
      · omega
    refine (hseq (w.heap.size + 1)
      (fun O pre W => I (Pl O) pre W ∧ W.heap[w.heap.size + 1]? = some (.loop (R .ready none)) ∧ W.heap[w.heap.size]? = some (.deferred (some [])) ∧ ∀ k, O k → w.heap.size + 2 ≤ k)
      (fun O pre W => ∃ c, Ix c (Pl O) pre W ∧ W.heap[w.heap.size + 1]? = some (.loop (R .done (some c))) ∧ W.heap[w.heap.size]? = some (.deferred (some [])) ∧ ∀ k, O k → w.heap.size + 2 ≤ k)
      VV (hb0.trans (bV.mono hb0.size))
      (fun s => ab (fun O => I O s) _ (hI s))
      (fun s O O' A C ⟨c, h⟩ hs => ⟨c, ab (fun O => Ix c O s) _ (hIx c s) O O' A C h hs⟩)
      ?round ⟨?first, rV, dV, fun k hk => hk.elim⟩).mono ?behind
    case first =>
      refine hI [] _ _ _ _ h0 ⟨bV.os, bV.tape, bV.output, bV.size, fun k hk _ => bV.block k hk, fun k => ?_⟩
      rw [hPl, sV]
      constructor
      · rintro (h | h | h)
        · exact h.elim
        · exact .inr ⟨by omega, by omega⟩
        · exact .inr ⟨by omega, by omega⟩
      · rintro (h | ⟨h, h'⟩)
        · exact h.elim
        · exact .inr (by omega)
    case round =>
      rintro O pre x W ⟨hi, hr, hd, hO⟩ hVx hOk hsz hlen
      have lt : w.heap.size + 1 < W.heap.size := (Array.getElem?_eq_some_iff.1 hr).1
      have hy := run_yield (P := P) (args := encs x) hr (by rw [hR]; exact hps x)
      rw [hR] at hy
      have hx1 := hWx x W
      have hr1 : (Wx x W).heap[w.heap.size + 1]? = some (.loop (R .ready none)) := (Below.block hx1 _ lt).trans hr
      have lt1 : w.heap.size + 1 < (Wx x W).heap.size := (Array.getElem?_eq_some_iff.1 hr1).1
      have hd1 : (Wx x W).heap[w.heap.size]? = some (.deferred (some [])) := (Below.block hx1 _ (by omega)).trans hd
      refine ⟨fn, _, assign, body, hy, roundIn_of_wpIn hfn (hassign _ x W _ ⟨_, run_beginRound hr1 (by rw [hR]), ?_⟩)⟩
      obtain ⟨U, hU⟩ : ∃ U, (Wx x W).putObj (w.heap.size + 1) (.loop { R .ready none with state := .busy }) = U := ⟨_, rfl⟩
      rw [hU]
      have nX : ¬ X (w.heap.size + 1) := fun h => by have := hX _ h; have := hb0.size; omega
      have nO : ¬ O (w.heap.size + 1) := fun h => by have := hO _ h; omega
      have uU : RdO X O W U := RdO.trans ⟨hx1.os, hx1.tape, hx1.output, hx1.size, fun k _ hk => hx1.block k hk⟩ (hU ▸ rdo_put nO nX _)
      have iU : I (Pl O) pre U := hU ▸ hI pre _ _ _ _ (hIe _ _ _ _ hi hx1) (stp_put (pr O) _)
      have rU : U.heap[w.heap.size + 1]? = some (.loop { R .ready none with state := .busy }) := by rw [← hU]; exact World.putObj_heap_same lt1
      have dU : U.heap[w.heap.size]? = some (.deferred (some [])) := by rw [← hU]; exact (World.putObj_heap_other (by omega)).trans hd1
      have zU : W.heap.size ≤ U.heap.size := uU.size
      refine wpIn_mono (hbody _ (Pl O) pre x W U iU hVx (fun k hk => ?_) (by omega) (fun k hk => by rw [← hU]; exact World.putObj_heap_other (fun e => hk e)) (by rw [← hU]; simp) hlen) ?_
      · rw [hPl] at hk
        rcases hk with h | h | h
        · have := hOk k h; omega
        · omega
        · omega
      have sub : ∀ k, O k → Pl O k := fun k h => by rw [hPl]; exact .inl h
      have shut : ∀ (j : Option Code) (W3 : World), RdO X (Pl O) U W3 →
          (Instr.endRound (w.heap.size + 1) j).run P W3 = .ok (.bool j.isNone) (W3.putObj (w.heap.size + 1) (.loop (R (if j.isNone then .ready else .done) j))) ∧
          (W3.putObj (w.heap.size + 1) (.loop (R (if j.isNone then .ready else .done) j))).heap[w.heap.size + 1]? = some (.loop (R (if j.isNone then .ready else .done) j)) ∧
          (W3.putObj (w.heap.size + 1) (.loop (R (if j.isNone then .ready else .done) j))).heap[w.heap.size]? = some (.deferred (some [])) ∧
          Stp (Pl O) W3 (Pl O) (W3.putObj (w.heap.size + 1) (.loop (R (if j.isNone then .ready else .done) j))) ∧ RdO X O W3 (W3.putObj (w.heap.size + 1) (.loop (R (if j.isNone then .ready else .done) j))) := fun j W3 h3 => by
        have r3 : W3.heap[w.heap.size + 1]? = some (.loop { R .ready none with state := .busy }) := (h3.same _ (Or.inl (pr O)) (by omega)).trans rU
        have d3 : W3.heap[w.heap.size]? = some (.deferred (some [])) := (h3.same _ (Or.inl (pd O)) (by omega)).trans dU
        have lt3 : w.heap.size + 1 < W3.heap.size := (Array.getElem?_eq_some_iff.1 r3).1
        have := run_endRound (P := P) j r3
        rw [hR] at this ⊢
        exact ⟨this, World.putObj_heap_same lt3, (World.putObj_heap_other (by omega)).trans d3, stp_put (pr O) _, rdo_put nO nX _⟩
      rintro e a3 W3 hp
      cases e with
      | normal =>
        obtain ⟨h3, i3⟩ := hp
        obtain ⟨s1, s2, s3, s4, s5⟩ := shut none W3 h3
        exact ⟨_, _, s1, .inl ⟨rfl, ⟨hI _ _ _ _ _ i3 s4, s2, s3, hO⟩, (uU.trans (h3.sub sub)).trans s5⟩⟩
      | ret =>
        obtain ⟨h3, i3⟩ := hp
        obtain ⟨s1, s2, s3, s4, s5⟩ := shut (some .ret) W3 h3
        exact ⟨_, _, s1, .inr ⟨rfl, .ret, hIx _ _ _ _ _ _ i3 s4, s2, s3, hO⟩⟩
      | exit i =>
        obtain ⟨h3, i3⟩ := hp
        obtain ⟨s1, s2, s3, s4, s5⟩ := shut (some (.exit i)) W3 h3
        exact ⟨_, _, s1, .inr ⟨rfl, .exit i, hIx _ _ _ _ _ _ i3 s4, s2, s3, hO⟩⟩
      | goto i => exact hp.elim
      | panic ch => exact hp.elim
      | outgrown => exact hp.elim
    case behind =>
      rintro e W2 ⟨⟨v, rfl⟩, (⟨xs, O, hS, hi, hr, hd, hO⟩ | ⟨pre, O, hSp, c, hi, hr, hd, hO⟩)⟩
      · have lt : w.heap.size + 1 < W2.heap.size := (Array.getElem?_eq_some_iff.1 hr).1
        have := run_endLoop (P := P) hr (by rw [hR]; simp)
        rw [hR] at this
        exact ⟨none, _, this, hdone (Pl O) xs _ hS (hI _ _ _ _ _ hi (stp_put (pr O) _)) (pd O) (by simp; omega) ((World.putObj_heap_other (by omega)).trans hd)⟩
      · have lt : w.heap.size + 1 < W2.heap.size := (Array.getElem?_eq_some_iff.1 hr).1
        have := run_endLoop (P := P) hr (by rw [hR]; simp)
        rw [hR] at this
        exact ⟨some c, _, this, hstop c (Pl O) pre _ hSp (hIx _ _ _ _ _ _ hi (stp_put (pr O) _)) (pd O) (by simp; omega) ((World.putObj_heap_other (by omega)).trans hd)⟩
end

section
set_option linter.unusedVariables false
set_option linter.unusedSimpArgs false

open Go.RowKit Go.Shelf

attribute [local go_sem] Oper.semAt_some

/-- What is O's, and what is new. -/
def Oup (O : Nat → Prop) (A C : World) (k : Nat) : Prop := O k ∨ (A.heap.size ≤ k ∧ k < C.heap.size)

theorem stp_of {O : Nat → Prop} {A C : World} (h : World.grownBy A C none) : Stp O A (Oup O A C) C := ⟨h.os, h.tape, h.output, h.size, fun k hk _ => h.block k hk (by simp), fun k => Iff.rfl⟩

theorem stp_alloc (O : Nat → Prop) (A : World) (o : Obj) : Stp O A (Oup O A (A.alloc o)) (A.alloc o) := ⟨rfl, rfl, rfl, by simp, fun k hk _ => Below.heap_alloc _ _ _ hk, fun k => Iff.rfl⟩

/-- An append of one number onto what is O's. -/
theorem stp_append {O : Nat → Prop} {A C : World} {o : Obj} {v : Value} (hg : (A.alloc o).grownBy C v.ownBlock) (hv : ∀ g, v.ownBlock = some g → O g) : Stp O A (Oup O A C) C :=
  ⟨hg.os, hg.tape, hg.output, by have := hg.size; simp at this; omega, fun k hk hn => (hg.block k (by simp; omega) (fun e => hn (hv k e.symm))).trans (Below.heap_alloc _ _ _ hk), fun k => Iff.rfl⟩

theorem owns_rdo {X O : Nat → Prop} {W W' : World} (h : RdO X O W W') {B e n : Nat} {v : Value} {xs : List Value} (ho : W.ownsRow B e 1 v n xs) (hv : ∀ g, v.ownBlock = some g → O g) : W'.ownsRow B e 1 v n xs := by
  refine ⟨ho.1, ?_⟩
  rcases ho.2 with h0 | ⟨g, cap, cur, rfl, hb, hg, rest⟩
  · exact .inl h0
  · exact .inr ⟨g, cap, cur, rfl, hb, (h.same g (.inl (hv g rfl)) (Array.getElem?_eq_some_iff.1 hg).1).trans hg, rest⟩

theorem owns_blk {w : World} {B e n : Nat} {v : Value} {xs : List Value} (ho : w.ownsRow B e 1 v n xs) {g : Nat} (h : v.ownBlock = some g) : g < w.heap.size := (ho.lt g h).2
end

section
set_option linter.unusedVariables false
set_option linter.unusedSimpArgs false

open Go.RowKit

theorem owns_take {w : World} {B g cap : Nat} {L : List Int} (A : Nat) (hA : A ≤ L.length) (h : w.ownsRow B 3 1 (.slice (some ⟨g, 0, none⟩) L.length cap) L.length (iys L)) : w.ownsRow B 3 1 (.slice (some ⟨g, 0, none⟩) (L.take A).length cap) (L.take A).length (iys (L.take A)) := by
  rcases h.2 with ⟨h0, _⟩ | ⟨g', cap', cur, hv, hb, hg, h1, h2, h3, h4⟩
  · simp at h0
  · simp only [Value.slice.injEq, Option.some.injEq, Addr.mk.injEq] at hv
    obtain ⟨⟨rfl, -, -⟩, -, rfl⟩ := hv
    have hl : (L.take A).length = A := by rw [List.length_take]; omega
    refine ⟨by simp [iys], .inr ⟨g, cap, cur, rfl, hb, hg, by omega, h2, h3, ?_⟩⟩
    have h5 : cur.toList.take L.length = iys L := by simpa using h4
    have h6 : (cur.toList.take L.length).take A = cur.toList.take A := by rw [List.take_take, Nat.min_eq_left hA]
    rw [Nat.mul_one, hl, ← h6, h5]
    simp [iys, List.map_take]

theorem owns_cells {w : World} {B g cap : Nat} {L : List Int} (h : w.ownsRow B 3 1 (.slice (some ⟨g, 0, none⟩) L.length cap) L.length (iys L)) : B ≤ g ∧ g < w.heap.size ∧ L.length ≤ cap ∧ cap ≤ 9223372036854775807 ∧ ∀ i, i < L.length → w.cell? ⟨g, i, none⟩ = some (.int .i64 (L.getD i 0)) := by
  have h' := h
  rcases h.2 with ⟨h0, _⟩ | ⟨g', cap', cur, hv, hb, hg, h1, h2, h3, h4⟩
  · simp at h0
  · simp only [Value.slice.injEq, Option.some.injEq, Addr.mk.injEq] at hv
    obtain ⟨⟨rfl, -, -⟩, -, rfl⟩ := hv
    refine ⟨hb, (Array.getElem?_eq_some_iff.1 hg).1, h1, by unfold maxLen at h2; omega, fun i hi => ?_⟩
    rw [World.ownsRow.cellAt h' i (by simpa using hi)]
    simp [iys, hi]

theorem iowns_ext0 {w w' : World} {b : Nat} {v : Value} {n : Nat} {xs : List Value} (h : w.ownsRow b 3 1 v n xs) (he : Ext w w') : w'.ownsRow b 3 1 v n xs := by
  refine ⟨h.1, ?_⟩
  rcases h.2 with h | ⟨g, cap, cur, hv, hg, hr, hr'⟩
  · exact .inl h
  · refine .inr ⟨g, cap, cur, hv, hg, ?_, hr'⟩
    rw [Below.block he g (Array.getElem?_eq_some_iff.1 hr).1]; exact hr

/-- An append of one number onto a list of one's own; which block turned. -/
theorem wp_app1 {o : Oper} {a0 : Act} {K : Act → World → Prop} {Q : Exit → Act → World → Prop} {w : World} (s x : Operand)
    (ho : o.op = .call { callee := .builtin .append, args := #[s, x], argTypes := #[36, 36] })
    (base g cap : Nat) (L : List Int) (hs : a0.eval s = .slice (some ⟨g, 0, none⟩) L.length cap) (hown : w.ownsRow base 3 1 (.slice (some ⟨g, 0, none⟩) L.length cap) L.length (iys L))
    (b : Nat) (z : Int) (hx : a0.eval x = .slice (some ⟨b, 0, none⟩) 1 1) (hc : w.cell? ⟨b, 0, none⟩ = some (.int .i64 z)) (hlen : L.length ≤ 1048576) (hbase : base ≤ w.heap.size)
    (h : ∀ g' cap' w', w'.ownsRow base 3 1 (.slice (some ⟨g', 0, none⟩) (L ++ [z]).length cap') (L ++ [z]).length (iys (L ++ [z])) → w.grownBy w' (some g) → (g' = g ∨ g' = w.heap.size) → K (a0.put o.dst (.slice (some ⟨g', 0, none⟩) (L ++ [z]).length cap')) w') : o.wp Tryd.prog a0 w K Q := by
  obtain ⟨i0, hi, hz0, hz1, hz2⟩ := info_parts Tryd.info3
  obtain ⟨v', w', hr, h2, h3, h4, h5⟩ := run_append_own_at (P := Tryd.prog) w base 36 o.type 3 i0 (.int .i64 0) 1 8 Tryd.underlying36 hi hz0 hz1 hz2 rfl (by decide) _ L.length (iys L) hown ⟨b, 0, none⟩ 1 1 [.int .i64 z] rfl (by
    intro j u hj
    cases j with
    | zero => simp at hj; subst hj; simpa [Addr.add] using hc
    | succ j => simp at hj) (iys_one z) (by unfold maxLen; omega) (by omega) hbase
  have h2' : w'.ownsRow base 3 1 v' (L ++ [z]).length (iys (L ++ [z])) := by simpa [iys] using h2
  rcases h2'.2 with ⟨h0, h1⟩ | ⟨g', cap', cur, rfl, hrest⟩
  · simp at h1
  · unfold Oper.wp execOp
    simp only [ho, resolve, invoke, builtin, Sem.run_bind, Sem.run_pure, Result.andThen_ok, List.map_toArray, List.map_cons, List.map_nil, hs, hx, hr]
    refine h g' cap' w' h2' h3 ?_
    simpa [Value.ownBlock] using h5

theorem grw_grown {X : Nat → Prop} {w w' : World} {g : Nat} (h : w.grownBy w' (some g)) (hX : X g) : Grw X w w' := ⟨h.os, h.tape, h.output, h.size, fun k hk hn => h.block k hk (by simp; rintro rfl; exact hn hX)⟩
end

section
set_option linter.unusedVariables false
set_option linter.unusedSimpArgs false

open Go.RowKit

theorem rowL_at (A C : List It) (t : It) : rowL (A ++ t :: C) = rowL A ++ (itW t ++ rowL C) := by rw [rowL_append, rowL_cons]

theorem set_app (A X C : List Value) (n j : Nat) (h : A.length = n) (hj : j < X.length) (u : Value) : (A ++ (X ++ C)).set (n + j) u = A ++ (X.set j u ++ C) := by
  subst h
  rw [List.set_append_right _ _ (by omega), Nat.add_sub_cancel_left, List.set_append_left _ _ hj]

theorem slc_at {W : World} {B e s n : Nat} {v : Value} {xs : List Value} (h : W.ownsRow B e s v n xs) (hn : 0 < n) : ∃ g cap, v = .slice (some ⟨g, 0, none⟩) n cap ∧ B ≤ g ∧ g < W.heap.size := by
  rcases h.2 with ⟨_, h0⟩ | ⟨g, cap, cur, h0, hb, hg, _⟩
  · omega
  · exact ⟨g, cap, h0, hb, (Array.getElem?_eq_some_iff.1 hg).1⟩

/-- One item is another one, its body one's own. -/
theorem LAcc.swap {B : Nat} {W W' : World} {g n cap : Nat} {A C : List It} {t t' : It} (h : LAcc B W (.slice (some ⟨g, 0, none⟩) n cap) (A ++ t :: C))
    (hrow : W'.ownsRow B 55 3 (.slice (some ⟨g, 0, none⟩) n cap) (A ++ t' :: C).length (rowL (A ++ t' :: C)))
    (hk : ∀ k, k < W.heap.size → k ≠ g → W'.heap[k]? = W.heap[k]?)
    (h1 : BOwn W' t'.ad t'.blk t'.off t'.len t'.f) (h2 : 0 < t'.len → B ≤ t'.blk ∧ t'.blk ≠ g) (h3 : Nf t') (h4 : 0 < t'.len → ∀ s ∈ A ++ C, 0 < s.len → s.blk ≠ t'.blk) : LAcc B W' (.slice (some ⟨g, 0, none⟩) n cap) (A ++ t' :: C) := by
  have mem : ∀ s ∈ A ++ C, s ∈ A ++ t :: C := fun s hs => by
    rcases List.mem_append.1 hs with hs | hs
    · exact List.mem_append.2 (.inl hs)
    · exact List.mem_append.2 (.inr (List.mem_cons.2 (.inr hs)))
  have cas : ∀ s ∈ A ++ t' :: C, s = t' ∨ s ∈ A ++ C := fun s hs => by
    rcases List.mem_append.1 hs with hs | hs
    · exact .inr (List.mem_append.2 (.inl hs))
    · rcases List.mem_cons.1 hs with rfl | hs
      · exact .inl rfl
      · exact .inr (List.mem_append.2 (.inr hs))
  refine ⟨hrow, ⟨fun s hs => ?_, fun s hs h0 => ?_, fun s hs => ?_, ?_⟩, fun s hs h0 => ?_⟩
  · rcases cas s hs with rfl | hs
    · exact h1
    · have ho := h.bods.own s (mem s hs)
      have e : 0 < s.len → W'.heap[s.blk]? = W.heap[s.blk]? := fun h0 => hk _ (ho.toBSeg.lt h0) (fun e => h.away s (mem s hs) h0 (by simp [Value.ownBlock, e]))
      exact ⟨⟨ho.at', fun i hi => (World.cell?_of_block (a := ⟨s.blk, s.off + i, none⟩) (e (by omega))).trans (ho.cell i hi)⟩, fun i hi => (World.frozen?_of_block (a := ⟨s.blk, s.off + i, none⟩) (e (by omega))).trans (ho.free i hi)⟩
  · rcases cas s hs with rfl | hs
    · exact (h2 h0).1
    · exact h.bods.up s (mem s hs) h0
  · rcases cas s hs with rfl | hs
    · exact h3
    · exact h.bods.nf s (mem s hs)
  · have hp := h.bods.apart
    rw [List.pairwise_append, List.pairwise_cons] at hp ⊢
    refine ⟨hp.1, ⟨fun s hs k1 k2 => ?_, hp.2.1.2⟩, fun s hs u hu k1 k2 => ?_⟩
    · exact (h4 k1 s (List.mem_append.2 (.inr hs)) k2).symm
    · rcases List.mem_cons.1 hu with rfl | hu
      · exact h4 k2 s (List.mem_append.2 (.inl hs)) k1
      · exact hp.2.2 s hs u (List.mem_cons.2 (.inr hu)) k1 k2
  · rcases cas s hs with rfl | hs
    · have := (h2 h0).2
      simp [Value.ownBlock]
      exact fun e => this e.symm
    · exact h.away s (mem s hs) h0

theorem LAcc.len_n {B : Nat} {W : World} {a : Option Addr} {n cap : Nat} {L : List It} (h : LAcc B W (.slice a n cap) L) : n = L.length := by
  rcases h.row.2 with ⟨h0, h1⟩ | ⟨g, c, cur, h0, _⟩
  · simp only [Value.slice.injEq] at h0; omega
  · simp only [Value.slice.injEq] at h0; exact h0.2.1

/-- Its kids are set. -/
theorem LAcc.setKid {B : Nat} {W : World} {g n cap : Nat} {A C : List It} {t : It} (h : LAcc B W (.slice (some ⟨g, 0, none⟩) n cap) (A ++ t :: C)) (k : Int) :
    LAcc B (W.setCell ⟨g, 3 * A.length + 2, none⟩ (.int .i64 k)) (.slice (some ⟨g, 0, none⟩) n cap) (A ++ ⟨t.tag, k, t.ad, t.blk, t.off, t.len, t.cap, t.f⟩ :: C) := by
  have hn := h.len_n
  have hr := h.row
  rw [← hn] at hr
  have hst := (World.ownsRow.stored hr (3 * A.length + 2) (.int .i64 k)).1
  rw [rowL_at, set_app (rowL A) (itW t) (rowL C) (3 * A.length) 2 (by rw [rowL_len]; omega) (by simp [itW])] at hst
  have ht : t ∈ A ++ t :: C := List.mem_append.2 (.inr (List.mem_cons.2 (.inl rfl)))
  have ho := h.bods.own t ht
  have hs : ∀ b, b ≠ g → (W.setCell ⟨g, 3 * A.length + 2, none⟩ (.int .i64 k)).heap[b]? = W.heap[b]? := fun b hb => Below.heap_setCell _ _ _ _ (by show b ≠ g; exact hb)
  refine h.swap (t' := ⟨t.tag, k, t.ad, t.blk, t.off, t.len, t.cap, t.f⟩) (by
    have hl : (A ++ ⟨t.tag, k, t.ad, t.blk, t.off, t.len, t.cap, t.f⟩ :: C).length = n := by rw [hn]; simp
    rw [hl, rowL_at]
    exact hst) (fun b _ hb => hs b hb) ?_ (fun h0 => ⟨h.bods.up t ht h0, fun e => h.away t ht h0 (by simp [Value.ownBlock, ← e])⟩) (h.bods.nf t ht) (fun h0 s hs2 k1 => ?_)
  · have e : 0 < t.len → (W.setCell ⟨g, 3 * A.length + 2, none⟩ (.int .i64 k)).heap[t.blk]? = W.heap[t.blk]? := fun h0 => hs _ (fun e => h.away t ht h0 (by simp [Value.ownBlock, ← e]))
    exact ⟨⟨ho.at', fun i hi => (World.cell?_of_block (a := ⟨t.blk, t.off + i, none⟩) (e (by have : i < t.len := hi; omega))).trans (ho.cell i hi)⟩, fun i hi => (World.frozen?_of_block (a := ⟨t.blk, t.off + i, none⟩) (e (by have : i < t.len := hi; omega))).trans (ho.free i hi)⟩
  · have hp := h.bods.apart
    rw [List.pairwise_append, List.pairwise_cons] at hp
    rcases List.mem_append.1 hs2 with hs2 | hs2
    · exact hp.2.2 s hs2 t (List.mem_cons.2 (.inl rfl)) k1 h0
    · exact (hp.2.1.1 s hs2 h0 k1).symm

/-- Its body is set: bytes of one's own that are newer than all. -/
theorem LAcc.setBody {B : Nat} {W W2 : World} {g n cap : Nat} {A C : List It} {t : It} (h : LAcc B W (.slice (some ⟨g, 0, none⟩) n cap) (A ++ t :: C)) (e : Ext W W2) {a : Option Addr} {b m c : Nat} {f : Nat → Int}
    (hb : BOwn W2 a b 0 m f) (hl : 0 < m → W.heap.size ≤ b) (hB : B ≤ W.heap.size) :
    LAcc B (W2.setCell ⟨g, 3 * A.length + 1, none⟩ (.slice a m c)) (.slice (some ⟨g, 0, none⟩) n cap) (A ++ ⟨t.tag, t.kid, a, b, 0, m, c, nfF m f⟩ :: C) := by
  have h2 := h.ext e
  have hn := h2.len_n
  have hr := h2.row
  rw [← hn] at hr
  have hst := (World.ownsRow.stored hr (3 * A.length + 1) (.slice a m c)).1
  rw [rowL_at, set_app (rowL A) (itW t) (rowL C) (3 * A.length) 1 (by rw [rowL_len]; omega) (by simp [itW])] at hst
  have hg : g < W.heap.size := by
    have hr0 := h.row
    obtain ⟨g', c', h0, _, h1⟩ := slc_at hr0 (by simp; omega)
    injection h0 with e1
    injection e1 with e1
    injection e1 with e1
    rw [e1]
    exact h1
  have hs : ∀ k, k ≠ g → (W2.setCell ⟨g, 3 * A.length + 1, none⟩ (.slice a m c)).heap[k]? = W2.heap[k]? := fun k hk => Below.heap_setCell _ _ _ _ (by show k ≠ g; exact hk)
  have hbg : 0 < m → b ≠ g := fun h0 => by have := hl h0; omega
  refine h2.swap (t' := ⟨t.tag, t.kid, a, b, 0, m, c, nfF m f⟩) (by
    have hl : (A ++ ⟨t.tag, t.kid, a, b, 0, m, c, nfF m f⟩ :: C).length = n := by rw [hn]; simp
    rw [hl, rowL_at]
    exact hst) (fun k _ hk => hs k hk) ?_ (fun h0 => ⟨Nat.le_trans hB (hl h0), hbg h0⟩) ?_ (fun h0 s hs2 k1 => ?_)
  · have e : 0 < m → (W2.setCell ⟨g, 3 * A.length + 1, none⟩ (.slice a m c)).heap[b]? = W2.heap[b]? := fun h0 => hs _ (hbg h0)
    exact ⟨⟨hb.at', fun i hi => (World.cell?_of_block (a := ⟨b, 0 + i, none⟩) (e (by have : i < m := hi; omega))).trans (by rw [hb.cell i hi]; show _ = some (Value.int .u8 (nfF m f i)); unfold nfF; rw [getD_map hi])⟩, fun i hi => (World.frozen?_of_block (a := ⟨b, 0 + i, none⟩) (e (by have : i < m := hi; omega))).trans (hb.free i hi)⟩
  · have := (Bods.one (B := b) (cap := c) t.tag hb (Nat.le_refl _)).nf _ (List.mem_singleton.2 rfl)
    exact this
  · have hm : s ∈ A ++ t :: C := by
      rcases List.mem_append.1 hs2 with hs2 | hs2
      · exact List.mem_append.2 (.inl hs2)
      · exact List.mem_append.2 (.inr (List.mem_cons.2 (.inr hs2)))
    have := h.bods.lt hm k1
    have := hl h0
    show s.blk ≠ b
    omega

/-- What lies in its blocks stays, so does the list. -/
theorem ownsRow_of_blk {W W' : World} {B e s n : Nat} {v : Value} {xs : List Value} (h : W.ownsRow B e s v n xs) (hk : ∀ g, v.ownBlock = some g → W'.heap[g]? = W.heap[g]?) : W'.ownsRow B e s v n xs := by
  refine ⟨h.1, ?_⟩
  rcases h.2 with h0 | ⟨g, cap, cur, rfl, hb, hg, rest⟩
  · exact .inl h0
  · exact .inr ⟨g, cap, cur, rfl, hb, by rw [hk g rfl]; exact hg, rest⟩

theorem LAcc.of_blk {B : Nat} {W W' : World} {v : Value} {L : List It} (h : LAcc B W v L) (h1 : ∀ g, v.ownBlock = some g → W'.heap[g]? = W.heap[g]?) (h2 : ∀ t ∈ L, 0 < t.len → W'.heap[t.blk]? = W.heap[t.blk]?) : LAcc B W' v L :=
  ⟨ownsRow_of_blk h.row h1, h.bods.of_blk h2, h.away⟩

theorem grow_ext {a b : World} {o : Option Nat} (h : Ext a b) : a.grownBy b o := ⟨h.os, h.tape, h.output, Below.size h, fun q hq _ => Below.block h q hq⟩

/-- An append of a list of items, and what may have turned by it. -/
theorem wp_appG {o : Oper} {a0 : Act} {K : Act → World → Prop} {Q : Exit → Act → World → Prop} {W2 : World} (s x : Operand)
    (ho : o.op = .call { callee := .builtin .append, args := #[s, x], argTypes := #[23, 23] })
    (B B2 : Nat) (W : World) (v v2 : Value) (L M : List It) (hs : a0.eval s = v) (hA : LAcc B W v L) (e : Ext W W2) (hx : a0.eval x = v2) (hM : W2.ownsRow B2 55 3 v2 M.length (rowL M)) (hB2 : Bods B W2 (L ++ M)) (hnM : ∀ t ∈ M, 0 < t.len → v.ownBlock ≠ some t.blk)
    (hm : L.length + M.length ≤ 1048576) (hbase : B ≤ W.heap.size)
    (h : ∀ v' w', LAcc B w' v' (L ++ M) → W2.grownBy w' v.ownBlock → (v'.ownBlock = v.ownBlock ∨ v'.ownBlock = some W2.heap.size) → K (a0.put o.dst v') w') : o.wp Tryd.prog a0 W2 K Q := by
  obtain ⟨i0, hi, hz0, hz1, hz2⟩ := info_parts Tryd.infoItm
  have hWs := Below.size e
  rcases hM.2 with ⟨h0, h1⟩ | ⟨g, cap, cur, h0, -⟩
  · obtain rfl : M = [] := by cases M with | nil => rfl | cons _ _ => simp at h1
    have hr := run_append_nothing (P := Tryd.prog) B 23 o.type 55 i0 3 Tryd.underlying23 hi _ L.length 0 (rowL L) (ownsRow_ext hA.row e)
    unfold Oper.wp execOp
    simp only [ho, resolve, invoke, builtin, Sem.run_bind, Sem.run_pure, Result.andThen_ok, List.map_toArray, List.map_cons, List.map_nil, hs, hx, h0, hr]
    exact h v W2 (by rw [List.append_nil]; exact hA.ext e) ⟨rfl, rfl, rfl, Nat.le_refl _, fun _ _ _ => rfl⟩ (.inl rfl)
  · rw [h0] at hM
    obtain ⟨v', w', hr, h2, h3, h4, h5⟩ := run_append_own_at (P := Tryd.prog) W2 B 23 o.type 55 i0 (.agg #[.int .i64 0, .slice none 0 0, .int .i64 0]) 3 40 Tryd.underlying23 hi hz0 hz1 hz2 rfl (by decide) v L.length (rowL L) (ownsRow_ext hA.row e) ⟨g, 0, none⟩ M.length cap (rowL M) (rowL_len M) (row_cells hM) (rowL_one M) (by unfold maxLen; omega) (by omega) (by omega)
    unfold Oper.wp execOp
    simp only [ho, resolve, invoke, builtin, Sem.run_bind, Sem.run_pure, Result.andThen_ok, List.map_toArray, List.map_cons, List.map_nil, hs, hx, h0, hr]
    have hne : ∀ t ∈ L ++ M, 0 < t.len → v.ownBlock ≠ some t.blk := fun t ht h0 => by
      rcases List.mem_append.1 ht with ht | ht
      · exact hA.away t ht h0
      · exact hnM t ht h0
    refine h v' w' ⟨by rw [List.length_append, rowL_append]; exact h2, hB2.of_blk (fun t ht h0 => h3.block _ (hB2.lt ht h0) (fun hh => hne t ht h0 hh.symm)), fun t ht h0 hh => ?_⟩ h3 h5
    rcases h5 with h5 | h5
    · exact hne t ht h0 (by rw [← h5]; exact hh)
    · rw [h5] at hh
      simp only [Option.some.injEq] at hh
      have := hB2.lt ht h0
      omega

theorem wpList_appG {ops : Array Oper} {rest : List Oper} {o : Oper} {a0 : Act} {Q : Exit → Act → World → Prop} {W2 : World} (hgd : o.guard = none) (s x : Operand)
    (ho : o.op = .call { callee := .builtin .append, args := #[s, x], argTypes := #[23, 23] })
    (B B2 : Nat) (W : World) (v v2 : Value) (L M : List It) (hs : a0.eval s = v) (hA : LAcc B W v L) (e : Ext W W2) (hx : a0.eval x = v2) (hM : W2.ownsRow B2 55 3 v2 M.length (rowL M)) (hB2 : Bods B W2 (L ++ M)) (hnM : ∀ t ∈ M, 0 < t.len → v.ownBlock ≠ some t.blk)
    (hm : L.length + M.length ≤ 1048576) (hbase : B ≤ W.heap.size)
    (h : ∀ v' w', LAcc B w' v' (L ++ M) → W2.grownBy w' v.ownBlock → (v'.ownBlock = v.ownBlock ∨ v'.ownBlock = some W2.heap.size) → wpList Tryd.prog ops Q rest (a0.put o.dst v') w') : wpList Tryd.prog ops Q (o :: rest) a0 W2 :=
  wpList_plain hgd fun K hK => wp_appG s x ho B B2 W v v2 L M hs hA e hx hM hB2 hnM hm hbase fun v' w' h1 h2 h3 => hK _ _ (h v' w' h1 h2 h3)
end

end Go.Proofs.YtmcdikbcmikihaaDoor
