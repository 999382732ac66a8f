/- A range over an iterator that keeps cells of its own between two rounds, and a body that makes memory of its own in a round: O tells whose a block is: the iterator's (and the loop's record). A round keeps what is O's, the iterator turns nothing but what is O's. Nothing of the program. -/
import Derived.Test.YtboaiojapgiedaaRFun
namespace Go.Proofs.Ytboaiojapgiedaa
set_option linter.unusedVariables false
set_option linter.unusedSimpArgs false
open Go Go.RowKit

/-- A step of the iterator's: what is not O's lies as it lay; what is new is O's. -/
structure Stp (O : Nat → Prop) (A : World) (O' : Nat → Prop) (C : World) : Prop where
  os : C.os = A.os
  tape : C.tape = A.tape
  output : C.output = A.output
  size : A.heap.size ≤ C.heap.size
  same : ∀ k, k < A.heap.size → ¬ O k → C.heap[k]? = A.heap[k]?
  own : ∀ k, O' k ↔ O k ∨ (A.heap.size ≤ k ∧ k < C.heap.size)

def AbO (I : (Nat → Prop) → World → Prop) : Prop := ∀ O O' A C, I O A → Stp O A O' C → I O' C

/-- A round's word: what is O's, and what X tells, lies as it lay. -/
structure RdO (X O : Nat → Prop) (W W' : World) : Prop where
  os : W'.os = W.os
  tape : W'.tape = W.tape
  output : W'.output = W.output
  size : W.heap.size ≤ W'.heap.size
  same : ∀ k, (O k ∨ X k) → k < W.heap.size → W'.heap[k]? = W.heap[k]?

theorem RdO.refl (X O : Nat → Prop) (W : World) : RdO X O W W := ⟨rfl, rfl, rfl, Nat.le_refl _, fun _ _ _ => rfl⟩
theorem RdO.trans {X O : Nat → Prop} {A C D : World} (h : RdO X O A C) (k : RdO X O C D) : RdO X O A D :=
  ⟨k.os.trans h.os, k.tape.trans h.tape, k.output.trans h.output, Nat.le_trans h.size k.size, fun i hi hl => (k.same i hi (Nat.lt_of_lt_of_le hl h.size)).trans (h.same i hi hl)⟩
theorem RdO.sub {X O O' : Nat → Prop} {A D : World} (h : RdO X O A D) (hs : ∀ k, O' k → O k) : RdO X O' A D := ⟨h.os, h.tape, h.output, h.size, fun i hi hl => h.same i (hi.imp (hs i) id) hl⟩

theorem stp_put {O : Nat → Prop} {A : World} {l : Nat} (h : O l) (o : Obj) : Stp O A O (A.putObj l o) :=
  ⟨rfl, rfl, rfl, by simp, fun k _ hk => World.putObj_heap_other (by rintro rfl; exact hk h), fun k => ⟨.inl, fun h => h.elim id (fun ⟨h1, h2⟩ => by simp at h2; omega)⟩⟩
theorem rdo_put {X O : Nat → Prop} {A : World} {l : Nat} (h : ¬ O l) (hx : ¬ X l) (o : Obj) : RdO X O A (A.putObj l o) :=
  ⟨rfl, rfl, rfl, by simp, fun k hk _ => World.putObj_heap_other (by rintro rfl; rcases hk with hk | hk; exact h hk; exact hx hk)⟩

def bodyEndsO {α : Type} (X O : Nat → Prop) (I : (Nat → Prop) → List α → World → Prop) (Ix : Code → (Nat → Prop) → List α → World → Prop) (xs : List α) (W : World) : Exit → Act → World → Prop
  | .normal, _, W' => RdO X O W W' ∧ I O xs W'
  | .ret, _, W' => RdO X O W W' ∧ Ix .ret O xs W'
  | .exit i, _, W' => RdO X O W W' ∧ Ix (.exit i) O xs W'
  | _, _, _ => False

/-- The iterator's word. -/
def TellsO {α : Type} (n : Nat) (P : Program) (g : Nat) (lb : Array Value) (encs : α → Array Value) (S Sp : List α → Prop) (N : Nat) (X : Nat → Prop) (w0 : World) : Prop :=
  ∀ (l : Nat) (J Jx : (Nat → Prop) → List α → World → Prop) (W : World), Below w0.heap.size w0 W → (∀ s, AbO (fun O => J O s)) → (∀ s, AbO (fun O => Jx O s)) →
    (∀ O pre x W1, J O pre W1 → (∀ k, O k → W.heap.size ≤ k ∧ k < W1.heap.size) → W.heap.size ≤ W1.heap.size → pre.length < N → YieldAt Fence.wide (n - 1) P l (encs x) W1 fun e W' =>
      (e = .returned (.bool true) ∧ J O (pre ++ [x]) W' ∧ RdO X O W1 W') ∨ (e = .returned (.bool false) ∧ Jx O (pre ++ [x]) W')) →
    J (fun _ => False) [] W →
    CallsIn Fence.wide n P g (#[.func (.yield l) #[] #[]] ++ lb) W fun e W' => (∃ v, e = .returned v) ∧ ((∃ xs O, S xs ∧ J O xs W') ∨ (∃ pre O, Sp pre ∧ Jx O pre W'))

set_option maxHeartbeats 800000 in
theorem range_ownO {P : Program} {n : Nat} {α : Type} {g : Operand} {ps : Array Tmp} {assign body : Code} {Q : Exit → Act → World → Prop} {a : Act} {w : World} (h1 : 1 ≤ n)
    {gf : Nat} {lb : Array Value} (hg : a.eval g = .func (.func gf) #[] lb) (eg : ∀ args w, (callFunc gf args).run P w = .ok (.enter gf args) w)
    {encs : α → Array Value} {S Sp : List α → Prop} {N : Nat} {X : Nat → Prop} {w0 : World} (hX : ∀ k, X k → k < w0.heap.size) (hseq : TellsO (n - 1) P gf lb encs S Sp N X w0) (hb0 : Below w0.heap.size w0 w) (hps : ∀ x, (encs x).size = ps.size)
    (I : (Nat → Prop) → List α → World → Prop) (Ix : Code → (Nat → Prop) → List α → World → Prop) (hI : ∀ s, AbO (fun O => I O s)) (hIx : ∀ c s, AbO (fun O => Ix c O s)) (h0 : I (fun _ => False) [] w) (Ax : α → Act)
    (hassign : ∀ (l : Nat) (x : α) (W : World) (K : Act → World → Prop), K (Ax x) W →
      assign.wpIn (Fence.wide.inRound l) (n - 1 - 1) P (Exit.then K (fun _ _ _ => False)) { tmps := (ps.zip (encs x)).foldl (fun t (p, v) => t.setIfInBounds p v) a.tmps, defers := [] } W)
    (hbody : ∀ (l : Nat) (O : Nat → Prop) (pre : List α) (x : α) (W : World), I O pre W → (∀ k, O k → w.heap.size ≤ k ∧ k < W.heap.size) → w.heap.size + 2 ≤ W.heap.size → pre.length < N → body.wpIn (Fence.wide.inRound l) (n - 1 - 1) P (bodyEndsO X O I Ix (pre ++ [x]) W) (Ax x) W)
    (hdone : ∀ (O : Nat → Prop) (xs : List α) (W : World), S xs → I O xs W → O w.heap.size → w.heap.size < W.heap.size → W.heap[w.heap.size]? = some (.deferred (some [])) → Q .normal { a with defers := { target := .collected w.heap.size, args := #[] } :: a.defers } W)
    (hstop : ∀ (c : Code) (O : Nat → Prop) (pre : List α) (W : World), Sp pre → Ix c O pre W → O w.heap.size → w.heap.size < W.heap.size → W.heap[w.heap.size]? = some (.deferred (some [])) → c.wpIn Fence.wide n P Q { a with defers := { target := .collected w.heap.size, args := #[] } :: a.defers } W) :
    (Code.rangeFunc g ps assign body).wpIn Fence.wide n P Q a w := by
  refine wpIn_rangeFunc (fun fn hfn => ?_)
  obtain ⟨R, hR⟩ : ∃ R : LoopState → Option Code → Loop, R = fun st pe => { state := st, pending := pe, fn := fn, tmps := a.tmps, params := ps, assign := assign, body := body, defers := w.heap.size } := ⟨_, rfl⟩
  obtain ⟨V, hV⟩ : ∃ V, (w.alloc (.deferred (some []))).alloc (.loop (R .ready none)) = V := ⟨_, rfl⟩
  have sV : V.heap.size = w.heap.size + 2 := by rw [← hV]; simp
  have bV : Below w.heap.size w V := by rw [← hV]; exact ((Below.refl _ _).alloc (Nat.le_refl _) _).alloc (by simp) _
  have rV : V.heap[w.heap.size + 1]? = some (.loop (R .ready none)) := by
    rw [← hV]
    have := World.alloc_heap_new (w.alloc (.deferred (some []))) (.loop (R .ready none))
    rwa [World.size_alloc] at this
  have dV : V.heap[w.heap.size]? = some (.deferred (some [])) := by
    rw [← hV]
    exact (Below.heap_alloc _ _ _ (by simp)).trans (World.alloc_heap_new w _)
  refine ⟨w.heap.size + 1, [{ target := .collected w.heap.size, args := #[] }], V, { target := .fn (.func gf) lb, args := #[.func (.yield (w.heap.size + 1)) #[] #[]] }, V, gf, #[.func (.yield (w.heap.size + 1)) #[] #[]] ++ lb, V, ?e1, ?e2, fun _ _ => trivial, ?e3, fun _ => h1, ?e4⟩
  case e1 => rw [← hV, hR]; exact run_enterLoop_outer _ _ _ _ _
  case e2 =>
    simp only [resolve, hg]
    simp [go_sem]
  case e3 => simp [invoke, go_sem, eg]
  case e4 =>
    obtain ⟨Pl, hPl⟩ : ∃ Pl : (Nat → Prop) → Nat → Prop, Pl = fun O k => O k ∨ k = w.heap.size ∨ k = w.heap.size + 1 := ⟨_, rfl⟩
    have pd : ∀ O, Pl O w.heap.size := fun O => by rw [hPl]; exact .inr (.inl rfl)
    have pr : ∀ O, Pl O (w.heap.size + 1) := fun O => by rw [hPl]; exact .inr (.inr rfl)
    -- a step of the iterator's is one beside the loop's record
    have up : ∀ {O O' : Nat → Prop} {A C : World}, Stp O A O' C → Stp (Pl O) A (Pl O') C := fun h => ⟨h.os, h.tape, h.output, h.size, fun k hk hn => h.same k hk (fun ho => hn (by rw [hPl]; exact .inl ho)), fun k => by
      rw [hPl]
      simp only [h.own k]
      constructor
      · rintro ((h | h) | h)
        · exact .inl (.inl h)
        · exact .inr h
        · exact .inl (.inr h)
      · rintro ((h | h) | h)
        · exact .inl (.inl h)
        · exact .inr h
        · exact .inl (.inr h)⟩
    have ab : ∀ (T : (Nat → Prop) → World → Prop) (o1 : Obj), AbO T → AbO (fun O W => T (Pl O) W ∧ W.heap[w.heap.size + 1]? = some o1 ∧ W.heap[w.heap.size]? = some (.deferred (some [])) ∧ ∀ k, O k → w.heap.size + 2 ≤ k) := by
      rintro T o1 hT O O' A C ⟨t, r, d, hO⟩ h
      have l1 : w.heap.size + 1 < A.heap.size := (Array.getElem?_eq_some_iff.1 r).1
      refine ⟨hT _ _ _ _ t (up h), (h.same _ l1 (fun ho => by have := hO _ ho; omega)).trans r, (h.same _ (by omega) (fun ho => by have := hO _ ho; omega)).trans d, fun k hk => ?_⟩
      rcases (h.own k).1 hk with h | h
      · exact hO k h
      · omega
    refine (hseq (w.heap.size + 1)
      (fun O pre W => I (Pl O) pre W ∧ W.heap[w.heap.size + 1]? = some (.loop (R .ready none)) ∧ W.heap[w.heap.size]? = some (.deferred (some [])) ∧ ∀ k, O k → w.heap.size + 2 ≤ k)
      (fun O pre W => ∃ c, Ix c (Pl O) pre W ∧ W.heap[w.heap.size + 1]? = some (.loop (R .done (some c))) ∧ W.heap[w.heap.size]? = some (.deferred (some [])) ∧ ∀ k, O k → w.heap.size + 2 ≤ k)
      V (hb0.trans (bV.mono hb0.size))
      (fun s => ab (fun O => I O s) _ (hI s))
      (fun s O O' A C ⟨c, h⟩ hs => ⟨c, ab (fun O => Ix c O s) _ (hIx c s) O O' A C h hs⟩)
      ?round ⟨?first, rV, dV, fun k hk => hk.elim⟩).mono ?behind
    case first =>
      refine hI [] _ _ _ _ h0 ⟨bV.os, bV.tape, bV.output, bV.size, fun k hk _ => bV.block k hk, fun k => ?_⟩
      rw [hPl, sV]
      constructor
      · rintro (h | h | h)
        · exact h.elim
        · exact .inr ⟨by omega, by omega⟩
        · exact .inr ⟨by omega, by omega⟩
      · rintro (h | ⟨h, h'⟩)
        · exact h.elim
        · exact .inr (by omega)
    case round =>
      rintro O pre x W ⟨hi, hr, hd, hO⟩ hOk hsz hlen
      have lt : w.heap.size + 1 < W.heap.size := (Array.getElem?_eq_some_iff.1 hr).1
      have hy := run_yield (P := P) (args := encs x) hr (by rw [hR]; exact hps x)
      rw [hR] at hy
      refine ⟨fn, _, assign, body, hy, roundIn_of_wpIn hfn (hassign _ x W _ ⟨_, run_beginRound hr (by rw [hR]), ?_⟩)⟩
      obtain ⟨U, hU⟩ : ∃ U, W.putObj (w.heap.size + 1) (.loop { R .ready none with state := .busy }) = U := ⟨_, rfl⟩
      rw [hU]
      have nX : ¬ X (w.heap.size + 1) := fun h => by have := hX _ h; have := hb0.size; omega
      have nO : ¬ O (w.heap.size + 1) := fun h => by have := hO _ h; omega
      have uU : RdO X O W U := hU ▸ rdo_put nO nX _
      have iU : I (Pl O) pre U := hU ▸ hI pre _ _ _ _ hi (stp_put (pr O) _)
      have rU : U.heap[w.heap.size + 1]? = some (.loop { R .ready none with state := .busy }) := by rw [← hU]; exact World.putObj_heap_same lt
      have dU : U.heap[w.heap.size]? = some (.deferred (some [])) := by rw [← hU]; exact (World.putObj_heap_other (by omega)).trans hd
      have zU : W.heap.size ≤ U.heap.size := uU.size
      refine wpIn_mono (hbody _ (Pl O) pre x U iU (fun k hk => ?_) (by omega) hlen) ?_
      · rw [hPl] at hk
        rcases hk with h | h | h
        · have := hOk k h; omega
        · omega
        · omega
      have sub : ∀ k, O k → Pl O k := fun k h => by rw [hPl]; exact .inl h
      have shut : ∀ (j : Option Code) (W3 : World), RdO X (Pl O) U W3 →
          (Instr.endRound (w.heap.size + 1) j).run P W3 = .ok (.bool j.isNone) (W3.putObj (w.heap.size + 1) (.loop (R (if j.isNone then .ready else .done) j))) ∧
          (W3.putObj (w.heap.size + 1) (.loop (R (if j.isNone then .ready else .done) j))).heap[w.heap.size + 1]? = some (.loop (R (if j.isNone then .ready else .done) j)) ∧
          (W3.putObj (w.heap.size + 1) (.loop (R (if j.isNone then .ready else .done) j))).heap[w.heap.size]? = some (.deferred (some [])) ∧
          Stp (Pl O) W3 (Pl O) (W3.putObj (w.heap.size + 1) (.loop (R (if j.isNone then .ready else .done) j))) ∧ RdO X O W3 (W3.putObj (w.heap.size + 1) (.loop (R (if j.isNone then .ready else .done) j))) := fun j W3 h3 => by
        have r3 : W3.heap[w.heap.size + 1]? = some (.loop { R .ready none with state := .busy }) := (h3.same _ (Or.inl (pr O)) (by omega)).trans rU
        have d3 : W3.heap[w.heap.size]? = some (.deferred (some [])) := (h3.same _ (Or.inl (pd O)) (by omega)).trans dU
        have lt3 : w.heap.size + 1 < W3.heap.size := (Array.getElem?_eq_some_iff.1 r3).1
        have := run_endRound (P := P) j r3
        rw [hR] at this ⊢
        exact ⟨this, World.putObj_heap_same lt3, (World.putObj_heap_other (by omega)).trans d3, stp_put (pr O) _, rdo_put nO nX _⟩
      rintro e a3 W3 hp
      cases e with
      | normal =>
        obtain ⟨h3, i3⟩ := hp
        obtain ⟨s1, s2, s3, s4, s5⟩ := shut none W3 h3
        exact ⟨_, _, s1, .inl ⟨rfl, ⟨hI _ _ _ _ _ i3 s4, s2, s3, hO⟩, (uU.trans (h3.sub sub)).trans s5⟩⟩
      | ret =>
        obtain ⟨h3, i3⟩ := hp
        obtain ⟨s1, s2, s3, s4, s5⟩ := shut (some .ret) W3 h3
        exact ⟨_, _, s1, .inr ⟨rfl, .ret, hIx _ _ _ _ _ _ i3 s4, s2, s3, hO⟩⟩
      | exit i =>
        obtain ⟨h3, i3⟩ := hp
        obtain ⟨s1, s2, s3, s4, s5⟩ := shut (some (.exit i)) W3 h3
        exact ⟨_, _, s1, .inr ⟨rfl, .exit i, hIx _ _ _ _ _ _ i3 s4, s2, s3, hO⟩⟩
      | goto i => exact hp.elim
      | panic ch => exact hp.elim
      | outgrown => exact hp.elim
    case behind =>
      rintro e W2 ⟨⟨v, rfl⟩, (⟨xs, O, hS, hi, hr, hd, hO⟩ | ⟨pre, O, hSp, c, hi, hr, hd, hO⟩)⟩
      · have lt : w.heap.size + 1 < W2.heap.size := (Array.getElem?_eq_some_iff.1 hr).1
        have := run_endLoop (P := P) hr (by rw [hR]; simp)
        rw [hR] at this
        exact ⟨none, _, this, hdone (Pl O) xs _ hS (hI _ _ _ _ _ hi (stp_put (pr O) _)) (pd O) (by simp; omega) ((World.putObj_heap_other (by omega)).trans hd)⟩
      · have lt : w.heap.size + 1 < W2.heap.size := (Array.getElem?_eq_some_iff.1 hr).1
        have := run_endLoop (P := P) hr (by rw [hR]; simp)
        rw [hR] at this
        exact ⟨some c, _, this, hstop c (Pl O) pre _ hSp (hIx _ _ _ _ _ _ hi (stp_put (pr O) _)) (pd O) (by simp; omega) ((World.putObj_heap_other (by omega)).trans hd)⟩

end Go.Proofs.Ytboaiojapgiedaa
