/- A range over an iterator that keeps cells of its own between two rounds, and a body that makes memory of its own in a round: O tells whose a block is: the iterator's (and the loop's record). A round keeps what is O's, the iterator turns nothing but what is O's. Nothing of the program. Walks: the program's iterator below, for a caller that makes memory of its own in a round. Numbers: what an iterator tells of a part of a tree: its places one behind the other, its children where one is around. Nothing of the program. Walks: hasItem, Children of both. Walks: the model's Part: its loop. -/
import Derived.Test.YtmcdikbcmikihaaDoorTq03
import Derived.Maps.OwnIn
import Derived.Test.YtmcdikbcmikihaaDoorChecked
import Derived.Test.YtmcdikbcmikihaaDoorTq01
import Derived.Test.YtmcdikbcmikihaaDoorTq04
import Derived.Test.YtmcdikbcmikihaaDoorTq02
import Derived.Test.YtmcdikbcmikihaaDoorTq07
namespace Go.Proofs.YtmcdikbcmikihaaDoor

section
set_option linter.unusedVariables false
set_option linter.unusedSimpArgs false

open Go Go.RowKit

/-- A step of the iterator's: what is not O's lies as it lay; what is new is O's. -/
structure Stp (O : Nat → Prop) (A : World) (O' : Nat → Prop) (C : World) : Prop where
  os : C.os = A.os
  tape : C.tape = A.tape
  output : C.output = A.output
  size : A.heap.size ≤ C.heap.size
  same : ∀ k, k < A.heap.size → ¬ O k → C.heap[k]? = A.heap[k]?
  own : ∀ k, O' k ↔ O k ∨ (A.heap.size ≤ k ∧ k < C.heap.size)

def AbO (I : (Nat → Prop) → World → Prop) : Prop := ∀ O O' A C, I O A → Stp O A O' C → I O' C

/-- A round's word: what is O's, and what X tells, lies as it lay. -/
structure RdO (X O : Nat → Prop) (W W' : World) : Prop where
  os : W'.os = W.os
  tape : W'.tape = W.tape
  output : W'.output = W.output
  size : W.heap.size ≤ W'.heap.size
  same : ∀ k, (O k ∨ X k) → k < W.heap.size → W'.heap[k]? = W.heap[k]?

theorem RdO.refl (X O : Nat → Prop) (W : World) : RdO X O W W := ⟨rfl, rfl, rfl, Nat.le_refl _, fun _ _ _ => rfl⟩

theorem RdO.trans {X O : Nat → Prop} {A C D : World} (h : RdO X O A C) (k : RdO X O C D) : RdO X O A D :=
  ⟨k.os.trans h.os, k.tape.trans h.tape, k.output.trans h.output, Nat.le_trans h.size k.size, fun i hi hl => (k.same i hi (Nat.lt_of_lt_of_le hl h.size)).trans (h.same i hi hl)⟩

theorem RdO.sub {X O O' : Nat → Prop} {A D : World} (h : RdO X O A D) (hs : ∀ k, O' k → O k) : RdO X O' A D := ⟨h.os, h.tape, h.output, h.size, fun i hi hl => h.same i (hi.imp (hs i) id) hl⟩

theorem stp_put {O : Nat → Prop} {A : World} {l : Nat} (h : O l) (o : Obj) : Stp O A O (A.putObj l o) :=
  ⟨rfl, rfl, rfl, by simp, fun k _ hk => World.putObj_heap_other (by rintro rfl; exact hk h), fun k => ⟨.inl, fun h => h.elim id (fun ⟨h1, h2⟩ => by simp at h2; omega)⟩⟩

theorem rdo_put {X O : Nat → Prop} {A : World} {l : Nat} (h : ¬ O l) (hx : ¬ X l) (o : Obj) : RdO X O A (A.putObj l o) :=
  ⟨rfl, rfl, rfl, by simp, fun k hk _ => World.putObj_heap_other (by rintro rfl; rcases hk with hk | hk; exact h hk; exact hx hk)⟩

def bodyEndsO {α : Type} (X O : Nat → Prop) (I : (Nat → Prop) → List α → World → Prop) (Ix : Go.Code → (Nat → Prop) → List α → World → Prop) (xs : List α) (W : World) : Exit → Act → World → Prop
  | .normal, _, W' => RdO X O W W' ∧ I O xs W'
  | .ret, _, W' => RdO X O W W' ∧ Ix .ret O xs W'
  | .exit i, _, W' => RdO X O W W' ∧ Ix (.exit i) O xs W'
  | _, _, _ => False

/-- The iterator's word. -/
def TellsO {α : Type} (n : Nat) (P : Program) (g : Nat) (lb : Array Value) (encs : α → Array Value) (S Sp : List α → Prop) (N : Nat) (X : Nat → Prop) (w0 : World) : Prop :=
  ∀ (l : Nat) (J Jx : (Nat → Prop) → List α → World → Prop) (W : World), Below w0.heap.size w0 W → (∀ s, AbO (fun O => J O s)) → (∀ s, AbO (fun O => Jx O s)) →
    (∀ O pre x W1, J O pre W1 → (∀ k, O k → W.heap.size ≤ k ∧ k < W1.heap.size) → W.heap.size ≤ W1.heap.size → pre.length < N → YieldAt Fence.wide (n - 1) P l (encs x) W1 fun e W' =>
      (e = .returned (.bool true) ∧ J O (pre ++ [x]) W' ∧ RdO X O W1 W') ∨ (e = .returned (.bool false) ∧ Jx O (pre ++ [x]) W')) →
    J (fun _ => False) [] W →
    CallsIn Fence.wide n P g (#[.func (.yield l) #[] #[]] ++ lb) W fun e W' => (∃ v, e = .returned v) ∧ ((∃ xs O, S xs ∧ J O xs W') ∨ (∃ pre O, Sp pre ∧ Jx O pre W'))

set_option maxHeartbeats 800000 in
theorem range_ownO {P : Program} {n : Nat} {α : Type} {g : Operand} {ps : Array Tmp} {assign body : Go.Code} {Q : Exit → Act → World → Prop} {a : Act} {w : World} (h1 : 1 ≤ n)
    {gf : Nat} {lb : Array Value} (hg : a.eval g = .func (.func gf) #[] lb) (eg : ∀ args w, (callFunc gf args).run P w = .ok (.enter gf args) w)
    {encs : α → Array Value} {S Sp : List α → Prop} {N : Nat} {X : Nat → Prop} {w0 : World} (hX : ∀ k, X k → k < w0.heap.size) (hseq : TellsO (n - 1) P gf lb encs S Sp N X w0) (hb0 : Below w0.heap.size w0 w) (hps : ∀ x, (encs x).size = ps.size)
    (I : (Nat → Prop) → List α → World → Prop) (Ix : Go.Code → (Nat → Prop) → List α → World → Prop) (hI : ∀ s, AbO (fun O => I O s)) (hIx : ∀ c s, AbO (fun O => Ix c O s)) (h0 : I (fun _ => False) [] w) (Ax : α → Act)
    (hassign : ∀ (l : Nat) (x : α) (W : World) (K : Act → World → Prop), K (Ax x) W →
      assign.wpIn (Fence.wide.inRound l) (n - 1 - 1) P (Exit.then K (fun _ _ _ => False)) { tmps := (ps.zip (encs x)).foldl (fun t (p, v) => t.setIfInBounds p v) a.tmps, defers := [] } W)
    (hbody : ∀ (l : Nat) (O : Nat → Prop) (pre : List α) (x : α) (W : World), I O pre W → (∀ k, O k → w.heap.size ≤ k ∧ k < W.heap.size) → w.heap.size + 2 ≤ W.heap.size → pre.length < N → body.wpIn (Fence.wide.inRound l) (n - 1 - 1) P (bodyEndsO X O I Ix (pre ++ [x]) W) (Ax x) W)
    (hdone : ∀ (O : Nat → Prop) (xs : List α) (W : World), S xs → I O xs W → O w.heap.size → w.heap.size < W.heap.size → W.heap[w.heap.size]? = some (.deferred (some [])) → Q .normal { a with defers := { target := .collected w.heap.size, args := #[] } :: a.defers } W)
    (hstop : ∀ (c : Go.Code) (O : Nat → Prop) (pre : List α) (W : World), Sp pre → Ix c O pre W → O w.heap.size → w.heap.size < W.heap.size → W.heap[w.heap.size]? = some (.deferred (some [])) → c.wpIn Fence.wide n P Q { a with defers := { target := .collected w.heap.size, args := #[] } :: a.defers } W) :
    (Go.Code.rangeFunc g ps assign body).wpIn Fence.wide n P Q a w := by
  refine wpIn_rangeFunc (fun fn hfn => ?_)
  obtain ⟨R, hR⟩ : ∃ R : LoopState → Option Go.Code → Loop, R = fun st pe => { state := st, pending := pe, fn := fn, tmps := a.tmps, params := ps, assign := assign, body := body, defers := w.heap.size } := ⟨_, rfl⟩
  obtain ⟨V, hV⟩ : ∃ V, (w.alloc (.deferred (some []))).alloc (.loop (R .ready none)) = V := ⟨_, rfl⟩
  have sV : V.heap.size = w.heap.size + 2 := by rw [← hV]; simp
  have bV : Below w.heap.size w V := by rw [← hV]; exact ((Below.refl _ _).alloc (Nat.le_refl _) _).alloc (by simp) _
  have rV : V.heap[w.heap.size + 1]? = some (.loop (R .ready none)) := by
    rw [← hV]
    have := World.alloc_heap_new (w.alloc (.deferred (some []))) (.loop (R .ready none))
    rwa [World.size_alloc] at this
  have dV : V.heap[w.heap.size]? = some (.deferred (some [])) := by
    rw [← hV]
    exact (Below.heap_alloc _ _ _ (by simp)).trans (World.alloc_heap_new w _)
  refine ⟨w.heap.size + 1, [{ target := .collected w.heap.size, args := #[] }], V, { target := .fn (.func gf) lb, args := #[.func (.yield (w.heap.size + 1)) #[] #[]] }, V, gf, #[.func (.yield (w.heap.size + 1)) #[] #[]] ++ lb, V, ?e1, ?e2, fun _ _ => trivial, ?e3, fun _ => h1, ?e4⟩
  case e1 => rw [← hV, hR]; exact run_enterLoop_outer _ _ _ _ _
  case e2 =>
    simp only [resolve, hg]
    simp [go_sem]
  case e3 => simp [invoke, go_sem, eg]
  case e4 =>
    obtain ⟨Pl, hPl⟩ : ∃ Pl : (Nat → Prop) → Nat → Prop, Pl = fun O k => O k ∨ k = w.heap.size ∨ k = w.heap.size + 1 := ⟨_, rfl⟩
    have pd : ∀ O, Pl O w.heap.size := fun O => by rw [hPl]; exact .inr (.inl rfl)
    have pr : ∀ O, Pl O (w.heap.size + 1) := fun O => by rw [hPl]; exact .inr (.inr rfl)
    -- a step of the iterator's is one beside the loop's record
    have up : ∀ {O O' : Nat → Prop} {A C : World}, Stp O A O' C → Stp (Pl O) A (Pl O') C := fun h => ⟨h.os, h.tape, h.output, h.size, fun k hk hn => h.same k hk (fun ho => hn (by rw [hPl]; exact .inl ho)), fun k => by
      rw [hPl]
      simp only [h.own k]
      constructor
      · rintro ((h | h) | h)
        · exact .inl (.inl h)
        · exact .inr h
        · exact .inl (.inr h)
      · rintro ((h | h) | h)
        · exact .inl (.inl h)
        · exact .inr h
        · exact .inl (.inr h)⟩
    have ab : ∀ (T : (Nat → Prop) → World → Prop) (o1 : Obj), AbO T → AbO (fun O W => T (Pl O) W ∧ W.heap[w.heap.size + 1]? = some o1 ∧ W.heap[w.heap.size]? = some (.deferred (some [])) ∧ ∀ k, O k → w.heap.size + 2 ≤ k) := by
      rintro T o1 hT O O' A C ⟨t, r, d, hO⟩ h
      have l1 : w.heap.size + 1 < A.heap.size := (Array.getElem?_eq_some_iff.1 r).1
      refine ⟨hT _ _ _ _ t (up h), (h.same _ l1 (fun ho => by have := hO _ ho; omega)).trans r, (h.same _ (by omega) (fun ho => by have := hO _ ho; omega)).trans d, fun k hk => ?_⟩
      rcases (h.own k).1 hk with h | h
      · exact hO k h
      · omega
    refine (hseq (w.heap.size + 1)
      (fun O pre W => I (Pl O) pre W ∧ W.heap[w.heap.size + 1]? = some (.loop (R .ready none)) ∧ W.heap[w.heap.size]? = some (.deferred (some [])) ∧ ∀ k, O k → w.heap.size + 2 ≤ k)
      (fun O pre W => ∃ c, Ix c (Pl O) pre W ∧ W.heap[w.heap.size + 1]? = some (.loop (R .done (some c))) ∧ W.heap[w.heap.size]? = some (.deferred (some [])) ∧ ∀ k, O k → w.heap.size + 2 ≤ k)
      V (hb0.trans (bV.mono hb0.size))
      (fun s => ab (fun O => I O s) _ (hI s))
      (fun s O O' A C ⟨c, h⟩ hs => ⟨c, ab (fun O => Ix c O s) _ (hIx c s) O O' A C h hs⟩)
      ?round ⟨?first, rV, dV, fun k hk => hk.elim⟩).mono ?behind
    case first =>
      refine hI [] _ _ _ _ h0 ⟨bV.os, bV.tape, bV.output, bV.size, fun k hk _ => bV.block k hk, fun k => ?_⟩
      rw [hPl, sV]
      constructor
      · rintro (h | h | h)
        · exact h.elim
        · exact .inr ⟨by omega, by omega⟩
        · exact .inr ⟨by omega, by omega⟩
      · rintro (h | ⟨h, h'⟩)
        · exact h.elim
        · exact .inr (by omega)
    case round =>
      rintro O pre x W ⟨hi, hr, hd, hO⟩ hOk hsz hlen
      have lt : w.heap.size + 1 < W.heap.size := (Array.getElem?_eq_some_iff.1 hr).1
      have hy := run_yield (P := P) (args := encs x) hr (by rw [hR]; exact hps x)
      rw [hR] at hy
      refine ⟨fn, _, assign, body, hy, roundIn_of_wpIn hfn (hassign _ x W _ ⟨_, run_beginRound hr (by rw [hR]), ?_⟩)⟩
      obtain ⟨U, hU⟩ : ∃ U, W.putObj (w.heap.size + 1) (.loop { R .ready none with state := .busy }) = U := ⟨_, rfl⟩
      rw [hU]
      have nX : ¬ X (w.heap.size + 1) := fun h => by have := hX _ h; have := hb0.size; omega
      have nO : ¬ O (w.heap.size + 1) := fun h => by have := hO _ h; omega
      have uU : RdO X O W U := hU ▸ rdo_put nO nX _
      have iU : I (Pl O) pre U := hU ▸ hI pre _ _ _ _ hi (stp_put (pr O) _)
      have rU : U.heap[w.heap.size + 1]? = some (.loop { R .ready none with state := .busy }) := by rw [← hU]; exact World.putObj_heap_same lt
      have dU : U.heap[w.heap.size]? = some (.deferred (some [])) := by rw [← hU]; exact (World.putObj_heap_other (by omega)).trans hd
      have zU : W.heap.size ≤ U.heap.size := uU.size
      refine wpIn_mono (hbody _ (Pl O) pre x U iU (fun k hk => ?_) (by omega) hlen) ?_
      · rw [hPl] at hk
        rcases hk with h | h | h
        · have := hOk k h; omega
        · omega
        · omega
      have sub : ∀ k, O k → Pl O k := fun k h => by rw [hPl]; exact .inl h
      have shut : ∀ (j : Option Go.Code) (W3 : World), RdO X (Pl O) U W3 →
          (Instr.endRound (w.heap.size + 1) j).run P W3 = .ok (.bool j.isNone) (W3.putObj (w.heap.size + 1) (.loop (R (if j.isNone then .ready else .done) j))) ∧
          (W3.putObj (w.heap.size + 1) (.loop (R (if j.isNone then .ready else .done) j))).heap[w.heap.size + 1]? = some (.loop (R (if j.isNone then .ready else .done) j)) ∧
          (W3.putObj (w.heap.size + 1) (.loop (R (if j.isNone then .ready else .done) j))).heap[w.heap.size]? = some (.deferred (some [])) ∧
          Stp (Pl O) W3 (Pl O) (W3.putObj (w.heap.size + 1) (.loop (R (if j.isNone then .ready else .done) j))) ∧ RdO X O W3 (W3.putObj (w.heap.size + 1) (.loop (R (if j.isNone then .ready else .done) j))) := fun j W3 h3 => by
        have r3 : W3.heap[w.heap.size + 1]? = some (.loop { R .ready none with state := .busy }) := (h3.same _ (Or.inl (pr O)) (by omega)).trans rU
        have d3 : W3.heap[w.heap.size]? = some (.deferred (some [])) := (h3.same _ (Or.inl (pd O)) (by omega)).trans dU
        have lt3 : w.heap.size + 1 < W3.heap.size := (Array.getElem?_eq_some_iff.1 r3).1
        have := run_endRound (P := P) j r3
        rw [hR] at this ⊢
        exact ⟨this, World.putObj_heap_same lt3, (World.putObj_heap_other (by omega)).trans d3, stp_put (pr O) _, rdo_put nO nX _⟩
      rintro e a3 W3 hp
      cases e with
      | normal =>
        obtain ⟨h3, i3⟩ := hp
        obtain ⟨s1, s2, s3, s4, s5⟩ := shut none W3 h3
        exact ⟨_, _, s1, .inl ⟨rfl, ⟨hI _ _ _ _ _ i3 s4, s2, s3, hO⟩, (uU.trans (h3.sub sub)).trans s5⟩⟩
      | ret =>
        obtain ⟨h3, i3⟩ := hp
        obtain ⟨s1, s2, s3, s4, s5⟩ := shut (some .ret) W3 h3
        exact ⟨_, _, s1, .inr ⟨rfl, .ret, hIx _ _ _ _ _ _ i3 s4, s2, s3, hO⟩⟩
      | exit i =>
        obtain ⟨h3, i3⟩ := hp
        obtain ⟨s1, s2, s3, s4, s5⟩ := shut (some (.exit i)) W3 h3
        exact ⟨_, _, s1, .inr ⟨rfl, .exit i, hIx _ _ _ _ _ _ i3 s4, s2, s3, hO⟩⟩
      | goto i => exact hp.elim
      | panic ch => exact hp.elim
      | outgrown => exact hp.elim
    case behind =>
      rintro e W2 ⟨⟨v, rfl⟩, (⟨xs, O, hS, hi, hr, hd, hO⟩ | ⟨pre, O, hSp, c, hi, hr, hd, hO⟩)⟩
      · have lt : w.heap.size + 1 < W2.heap.size := (Array.getElem?_eq_some_iff.1 hr).1
        have := run_endLoop (P := P) hr (by rw [hR]; simp)
        rw [hR] at this
        exact ⟨none, _, this, hdone (Pl O) xs _ hS (hI _ _ _ _ _ hi (stp_put (pr O) _)) (pd O) (by simp; omega) ((World.putObj_heap_other (by omega)).trans hd)⟩
      · have lt : w.heap.size + 1 < W2.heap.size := (Array.getElem?_eq_some_iff.1 hr).1
        have := run_endLoop (P := P) hr (by rw [hR]; simp)
        rw [hR] at this
        exact ⟨some c, _, this, hstop c (Pl O) pre _ hSp (hIx _ _ _ _ _ _ hi (stp_put (pr O) _)) (pd O) (by simp; omega) ((World.putObj_heap_other (by omega)).trans hd)⟩
end

section
set_option linter.unusedVariables false
set_option linter.unusedSimpArgs false

open Go.RowKit Go.Shelf

attribute [local go_sem] Oper.semAt_some

/-- What is O's, and what is new. -/
def Oup (O : Nat → Prop) (A C : World) (k : Nat) : Prop := O k ∨ (A.heap.size ≤ k ∧ k < C.heap.size)

theorem stp_of {O : Nat → Prop} {A C : World} (h : World.grownBy A C none) : Stp O A (Oup O A C) C := ⟨h.os, h.tape, h.output, h.size, fun k hk _ => h.block k hk (by simp), fun k => Iff.rfl⟩

theorem stp_alloc (O : Nat → Prop) (A : World) (o : Obj) : Stp O A (Oup O A (A.alloc o)) (A.alloc o) := ⟨rfl, rfl, rfl, by simp, fun k hk _ => Below.heap_alloc _ _ _ hk, fun k => Iff.rfl⟩

/-- An append of one number onto what is O's. -/
theorem stp_append {O : Nat → Prop} {A C : World} {o : Obj} {v : Value} (hg : (A.alloc o).grownBy C v.ownBlock) (hv : ∀ g, v.ownBlock = some g → O g) : Stp O A (Oup O A C) C :=
  ⟨hg.os, hg.tape, hg.output, by have := hg.size; simp at this; omega, fun k hk hn => (hg.block k (by simp; omega) (fun e => hn (hv k e.symm))).trans (Below.heap_alloc _ _ _ hk), fun k => Iff.rfl⟩

theorem stp_set {O : Nat → Prop} {A : World} {g p : Nat} (v : Value) (hg : O g) : Stp O A O (A.setCell ⟨g, p, none⟩ v) :=
  ⟨rfl, rfl, rfl, by simp [World.setCell], fun k _ hn => Below.heap_setCell _ _ _ _ (by rintro rfl; exact hn hg), fun k => ⟨.inl, fun h => h.elim id (fun ⟨h1, h2⟩ => by simp [World.setCell] at h2; omega)⟩⟩

theorem owns_rdo {X O : Nat → Prop} {W W' : World} (h : RdO X O W W') {B e n : Nat} {v : Value} {xs : List Value} (ho : W.ownsRow B e 1 v n xs) (hv : ∀ g, v.ownBlock = some g → O g) : W'.ownsRow B e 1 v n xs := by
  refine ⟨ho.1, ?_⟩
  rcases ho.2 with h0 | ⟨g, cap, cur, rfl, hb, hg, rest⟩
  · exact .inl h0
  · exact .inr ⟨g, cap, cur, rfl, hb, (h.same g (.inl (hv g rfl)) (Array.getElem?_eq_some_iff.1 hg).1).trans hg, rest⟩

theorem owns_blk {w : World} {B e n : Nat} {v : Value} {xs : List Value} (ho : w.ownsRow B e 1 v n xs) {g : Nat} (h : v.ownBlock = some g) : g < w.heap.size := (ho.lt g h).2

set_option maxHeartbeats 6400000 in
set_option maxRecDepth 100000 in
theorem below1_inO (n : Nat) (hn1 : 1 ≤ n) (m top CT CL b off cap : Nat) (kid : Nat → Int) (w0 : World) (htop : top ≤ m) (hm : m ≤ 1048576) (hm0 : 0 < m) (hCT : w0.cell? ⟨CT, 0, none⟩ = some (.int .i64 (top : Int))) (hCL : w0.cell? ⟨CL, 0, none⟩ = some (.slice (some ⟨b, off, none⟩) m cap)) (hK : KidAt w0 b off m kid) (hk : ∀ i, i < m → kid i ≤ 9223372036854775807) :
    TellsO (α := Pl m) n Tryd.prog 54 #[.pointer (some ⟨CT, 0, none⟩), .pointer (some ⟨CL, 0, none⟩)] encP (fun xs => xs.map (·.1) = trP kid (m - top) top []) (fun pre => pre.map (·.1) <+: trP kid (m - top) top []) m (XB CT CL b) w0 := by
  intro l J Jx W hW hJ hJx hY h0
  have lt1 : CT < w0.heap.size := World.block_lt_of_cell? _ _ hCT
  have lt2 : CL < w0.heap.size := World.block_lt_of_cell? _ _ hCL
  have lt3 : b < w0.heap.size := World.block_lt_of_cell? _ _ (hK 0 hm0)
  have a1 : ∀ o, (W.alloc o).cell? ⟨CT, 0, none⟩ = some (.int .i64 (top : Int)) := fun o => (Below.cell (hW.trans ((Below.refl _ _).alloc hW.size o)) (p := ⟨CT, 0, none⟩) lt1).trans hCT
  obtain ⟨i0, hi, hz0, hz1, hz2⟩ := info_parts Tryd.info3
  refine callsIn_of_wp Tryd.func54 rfl trivial ?_ rfl
  simp only [Tryd.ntmps54, List.size_toArray, List.length_cons, List.length_nil, Nat.reduceAdd, Nat.reduceSub, Array.replicate_succ, Array.replicate_zero, List.push_toArray, List.append_toArray, List.nil_append, List.cons_append]
  gi_wp2
  have hO0 : Hid ((W.alloc (.cells #[] 3)).ownsRow W.heap.size 3 1 (.slice (some ⟨W.heap.size, 0, none⟩) 0 0) 0 []) := World.ownsRow_made (base := W.heap.size) (e := 3) (size := 1) W #[] 0 (Nat.le_refl _) (by simp) rfl
  have HK2 : Hid (∀ wr : World, (∀ k, XB CT CL b k → wr.heap[k]? = W.heap[k]?) → wr.cell? ⟨CL, 0, none⟩ = some (.slice (some ⟨b, off, none⟩) m cap) ∧ KidAt wr b off m kid) := by
    intro wr hr
    refine ⟨?_, fun i hi => ?_⟩
    · rw [World.cell?_of_block (a := ⟨CL, 0, none⟩) (hr CL (.inr (.inl rfl)))]
      exact (hW.cell (p := ⟨CL, 0, none⟩) lt2).trans hCL
    · rw [World.cell?_of_block (a := ⟨b, off + i * 3 + 2, none⟩) (hr b (.inr (.inr rfl)))]
      exact (hW.cell (p := ⟨b, off + i * 3 + 2, none⟩) lt3).trans (hK i hi)
  have HXl : Hid (∀ k, XB CT CL b k → k < W.heap.size) := fun k hk => by have := hW.size; rcases hk with h | h | h <;> omega
  gi_loopw [4, 5] (fun v p wr => ∃ (i : Nat) (L : List Int) (pre : List (Pl m)) (O : Nat → Prop), p = .int .i64 (i : Int) ∧ top ≤ i ∧ i ≤ m ∧ L.length ≤ i ∧ (∀ c, c ∈ L → c ≤ 9223372036854775807) ∧ pre.length ≤ i ∧ wr.ownsRow W.heap.size 3 1 v L.length (iys L) ∧ pre.map (·.1) ++ trP kid (m - i) i (sOf L) = trP kid (m - top) top [] ∧ J O pre wr ∧ W.heap.size ≤ wr.heap.size ∧ (∀ k, XB CT CL b k → wr.heap[k]? = W.heap[k]?) ∧ (∀ k, O k → W.heap.size ≤ k ∧ k < wr.heap.size) ∧ (∀ g, v.ownBlock = some g → O g)) (fun _ p _ => m - (intOf p).toNat)
  case atStart =>
    refine ⟨top, [], [], Oup (fun _ => False) W (W.alloc (.cells #[] 3)), rfl, Nat.le_refl _, htop, Nat.zero_le _, fun c hc => by simp at hc, Nat.zero_le _, hO0.out, rfl, hJ [] _ _ _ _ h0 (stp_alloc _ _ _), by simp, fun k hk => Below.heap_alloc _ _ _ (HXl.out k hk), fun k hk => ?_, fun g hg => ?_⟩
    · rcases hk with h | h
      · exact h.elim
      · simp at h ⊢; omega
    · simp only [Value.ownBlock, Option.some.injEq] at hg
      subst hg
      exact .inr ⟨Nat.le_refl _, by simp⟩
  case round =>
    clear hO0 a1
    obtain ⟨i, L, pre, O, rfl, hti, him, hLi, hLc, hpi, hO, hT, hJp, hsz, hrd, hOk, hOv⟩ := hrel
    have HLc := hide hLc
    clear hLc
    obtain ⟨va, vc, rfl⟩ := owns_slice hO
    obtain ⟨cl, kd⟩ := HK2.out wr hrd
    have HOk := hide hOk
    have HOv := hide hOv
    clear hOk hOv
    have HO := hide hO
    have HT := hide hT
    have Hrd := hide hrd
    have Hpi := hide hpi
    have HLi := hide hLi
    clear hO hT hrd kd hpi hLi
    by_cases hlt : i < m
    · have hlt' : (i : Int) < (m : Int) := by omega
      obtain ⟨fn, tmps, assign, body, hy, hR⟩ := hY O pre ⟨(i, L.length), hlt⟩ wr hJp HOk.out hsz (by have := Hpi.out; omega)
      simp only [encP] at hy
      have HR := hide hR
      clear hR
      have HF : Hid (trP kid (m - i) i (sOf L) = (i, L.length) :: match popF ((kid i).toNat :: sOf L) with | none => [] | some st' => trP kid (m - (i + 1)) (i + 1) st') := by
        show _ = _
        rw [show m - i = (m - (i + 1)) + 1 by omega, trP, sOf_len]
        all_goals (cases popF ((kid i).toNat :: sOf L) <;> rfl)
      gi_wp2
      refine HR.out.mono ?_
      rintro e W3 (⟨rfl, hJ3, hk3⟩ | ⟨rfl, hJx3⟩)
      · have HO3 := hide (owns_rdo hk3 HO.out HOv.out)
        have Hrd3 : Hid (∀ k, XB CT CL b k → W3.heap[k]? = W.heap[k]?) := fun k hk => (hk3.same k (.inr hk) (by have := HXl.out k hk; omega)).trans (Hrd.out k hk)
        have HOk3 : Hid (∀ k, O k → W.heap.size ≤ k ∧ k < W3.heap.size) := fun k hk => by have := HOk.out k hk; have := hk3.size; omega
        obtain ⟨cl3, kd3⟩ := HK2.out W3 Hrd3.out
        have kc3 := kd3 i hlt
        have HJ3 := hide hJ3
        have hsz3 : W.heap.size ≤ W3.heap.size := Nat.le_trans hsz hk3.size
        have Hki := hide (hk i hlt)
        clear hJ3 hk3 kd3 HO Hrd cl hy HR
        have hLL : L.length ≤ 1048576 := by have := HLi.out; omega
        have HP : Hid (popF ((kid i).toNat :: sOf L) = popF (sOf (L ++ [kid i]))) := by show _ = _; rw [sOf_push]
        generalize hkk : kid i = kk at *
        clear hkk
        gi_wp2_with (gi_at_builtin; refine wpListIn_append_own_at _ rfl _ _ 36 rfl W.heap.size 3 i0 (.int .i64 0) 1 8 Tryd.underlying36 hi hz0 hz1 hz2 rfl (by decide) _ _ _ rfl (HO3.out.alloc _) ⟨W3.heap.size, 0, none⟩ 1 1 [.int .i64 kk] rfl rfl (cell_one_new _ _ _) (iys_one _) (by unfold maxLen; omega) (by omega) (by simp; omega) ?_; intro v' w4 hown' hgrow hnil hat)
        have HB4 := hide (below_append hsz3 HO3.out hgrow)
        have HS4 := hide (stp_append (O := O) hgrow HOv.out)
        have HO4 : Hid (w4.ownsRow W.heap.size 3 1 v' (L ++ [kk]).length (iys (L ++ [kk]))) := by
          show World.ownsRow _ _ _ _ _ _ _
          simpa [iys] using hown'
        have hsz4 : W.heap.size ≤ w4.heap.size := Nat.le_trans hsz3 HB4.out.size
        have HJ4 := hide (hJ _ _ _ W3 w4 HJ3.out HS4.out)
        have Hrd4 : Hid (∀ k, XB CT CL b k → w4.heap[k]? = W.heap[k]?) := fun k hk => (HB4.out.block k (HXl.out k hk)).trans (Hrd3.out k hk)
        have HOk4 : Hid (∀ k, Oup O W3 w4 k → W.heap.size ≤ k ∧ k < w4.heap.size) := fun k hk => by
          have hs := HB4.out.size
          rcases hk with h | h
          · have := HOk3.out k h; omega
          · omega
        have HOv4 : Hid (∀ g, v'.ownBlock = some g → Oup O W3 w4 g) := fun g hg => by
          rcases (show v'.ownBlock = (Value.slice va L.length vc).ownBlock ∨ v'.ownBlock = some ((W3.alloc (.cells #[.int .i64 kk] 3)).heap.size) from hat) with h | h
          · exact .inl (HOv.out g (by rw [← h]; exact hg))
          · rw [h] at hg
            simp only [Option.some.injEq] at hg
            subst hg
            refine .inr ⟨by simp, ?_⟩
            exact owns_blk HO4.out h
        clear hown' hgrow hnil hat HO3 Hrd3 HJ3 cl3 kc3 HOk3 HS4
        gi_loopw [4] (fun v wq => wq = w4 ∧ ∃ M : List Int, M.length ≤ L.length + 1 ∧ popF (sOf M) = popF ((kk).toNat :: sOf L) ∧ w4.ownsRow W.heap.size 3 1 v M.length (iys M) ∧ (∀ c, c ∈ M → c ∈ L ∨ c = kk) ∧ (∀ g, v.ownBlock = some g → Oup O W3 w4 g)) (fun v _ => match v with | .slice _ k _ => k | _ => 0)
        case atStart => exact ⟨rfl, L ++ [kk], by simp, HP.out.symm, HO4.out, fun c hc => by simpa using hc, HOv4.out⟩
        case round =>
          clear HO4 HP
          obtain ⟨rfl, M, hM1, hM2, hMO, hM3, hMv⟩ := hrel
          have HMv := hide hMv
          clear hMv
          have HM2 := hide hM2
          have HM3 := hide hM3
          clear hM2 hM3
          rcases list_last M with rfl | ⟨M', c, rfl⟩
          · obtain ⟨ma, mc, rfl⟩ := owns_slice hMO
            clear hMO
            gi_wp2
            refine bodyPost_ret (results_none rfl _ _ _) rfl ?_
            refine ⟨⟨_, rfl⟩, .inl ⟨pre ++ [⟨(i, L.length), hlt⟩], ?_, Oup O W3 wr, HJ4.out⟩⟩
            rw [← HT.out, HF.out, ← HM2.out, List.map_append]
            rfl
          · obtain ⟨g, gc, rfl, hgB, hgc, hgc2, cc, cf⟩ := owns_last hMO
            have HMO := hide hMO
            have hlen : (M' ++ [c]).length = M'.length + 1 := by simp
            rw [hlen] at hgc hM1
            have hp1 : (0 : Int) < (M'.length : Int) + 1 := by omega
            have hq1 : (0 : Int) ≤ (M'.length : Int) + 1 - 1 := by omega
            have HgB := hide hgB
            clear hMO hgB
            by_cases hc : c ≤ 0
            · rw [hlen]
              have HMO2 := hide (owns_cut HMO.out)
              have HM5 : Hid (popF (sOf M') = popF (kk.toNat :: sOf L)) := by show _ = _; rw [← HM2.out, popF_low hc]
              gi_wp2
              go_roundw
              case rel => exact ⟨by trivial, M', by omega, HM5.out, HMO2.out, fun c' h => HM3.out c' (by simp [h]), fun g' hg' => HMv.out g' (by simpa [Value.ownBlock] using hg')⟩
              case measure => simp
            · have hc1 : 0 < c := by omega
              have hcb : c ≤ 9223372036854775807 := by
                rcases HM3.out c (by simp) with h | h
                · exact HLc.out c h
                · rw [h]; exact Hki.out
              have hz : ((M'.length : Int) + 1 == 0) = false := by simp; omega
              have HO6 := hide (owns_setLast HMO.out (c - 1))
              have HB6 : Hid (Below W.heap.size wr (wr.setCell ⟨g, M'.length, none⟩ (.int .i64 (c - 1)))) := below_touch (Below.refl _ _) ((Touch.refl g wr).set M'.length _) HgB.out
              rw [hlen]
              gi_wp2
              go_roundw
              case rel =>
                refine ⟨i + 1, M' ++ [c - 1], pre ++ [⟨(i, L.length), hlt⟩], Oup O W3 wr, by go_num, by omega, by omega, by have := HLi.out; simp; omega, fun c' h => ?_, by have := Hpi.out; simp; omega, ?_, ?_, hJ _ _ _ wr _ HJ4.out (stp_set _ (HMv.out g rfl)), Nat.le_trans hsz4 HB6.out.size, fun k hk => (HB6.out.block k (HXl.out k hk)).trans (Hrd4.out k hk), fun k hk => by have := HOk4.out k hk; have := HB6.out.size; omega, fun g' hg' => HMv.out g' (by simpa [Value.ownBlock] using hg')⟩
                · rcases List.mem_append.1 h with h | h
                  · rcases HM3.out c' (by simp [h]) with h' | h'
                    · exact HLc.out c' h'
                    · rw [h']; exact Hki.out
                  · simp at h; omega
                · have := HO6.out
                  rw [show (M' ++ [c - 1]).length = M'.length + 1 by simp] at this ⊢
                  exact this
                · rw [← HT.out, HF.out, ← HM2.out, popF_high hc1, List.map_append, List.append_assoc]
                  rfl
              case measure => simp [intOf]; omega
      · gi_wp2
        go_end0
        refine ⟨⟨_, rfl⟩, .inr ⟨pre ++ [⟨(i, L.length), hlt⟩], _, ?_, hJx3⟩⟩
        rw [← HT.out, HF.out, List.map_append]
        exact ⟨_, by rw [List.append_assoc]; rfl⟩
    · obtain rfl : i = m := by omega
      gi_wp2
      refine ⟨fun _ h => (by cases h), ?_⟩
      gi_wp2
      go_end0
      refine ⟨⟨_, rfl⟩, .inl ⟨pre, _, ?_, hJp⟩⟩
      have h := HT.out
      rw [Nat.sub_self, trP, List.append_nil] at h
      exact h
end

section
set_option linter.unusedVariables false
set_option linter.unusedSimpArgs false

theorem nat_of {z : Int} (h : 0 ≤ z) : ∃ e : Nat, z = e := ⟨z.toNat, by omega⟩

theorem kidsF_mono {f g : Nat → Int} (h : ∀ i, 0 ≤ f i → g i = f i) : ∀ (k : Nat) (s : Int), 0 ≤ kidsF f k s → kidsF g k s = kidsF f k s
  | 0, s, _ => rfl
  | k + 1, s, h0 => by
    unfold kidsF at h0 ⊢
    by_cases c : kidsF f k s < 0
    · rw [if_pos c] at h0; omega
    · rw [if_neg c] at h0 ⊢
      rw [kidsF_mono h k s (by omega), if_neg c]
      exact h _ h0

theorem endF_mono (kid : Nat → Int) (n : Nat) : ∀ (m i : Nat), 0 ≤ endF kid n m i → endF kid n (m + 1) i = endF kid n m i
  | 0, i, h => by simp [endF] at h
  | m + 1, i, h => by
    rw [endF] at h ⊢
    rw [endF]
    split
    · rfl
    · rename_i c
      rw [if_neg c] at h
      exact kidsF_mono (endF_mono kid n m) _ _ h

theorem kidsF_within {f : Nat → Int} (hf : ∀ i, 0 ≤ f i → (i : Int) + 1 ≤ f i) : ∀ (K : Nat) (s j : Nat), 0 ≤ kidsF f K s → s ≤ j → (j : Int) < kidsF f K s → ∃ s' : Nat, s' ≤ j ∧ (j : Int) < f s' ∧ f s' ≤ kidsF f K s
  | 0, s, j, h0, h1, h2 => by simp only [kidsF] at h2; omega
  | K + 1, s, j, h0, h1, h2 => by
    unfold kidsF at h0 h2 ⊢
    by_cases c : kidsF f K s < 0
    · rw [if_pos c] at h0; omega
    · rw [if_neg c] at h0 h2 ⊢
      obtain ⟨e, he⟩ := nat_of (show 0 ≤ kidsF f K s by omega)
      rw [he] at h0 h2 ⊢
      simp only [Int.toNat_natCast] at h0 h2 ⊢
      have hfar := hf e h0
      by_cases d : j < e
      · obtain ⟨s', a1, a2, a3⟩ := kidsF_within hf K s j (by omega) h1 (by omega)
        exact ⟨s', a1, a2, by omega⟩
      · exact ⟨e, by omega, h2, Int.le_refl _⟩

theorem endF_within (kid : Nat → Int) (n : Nat) : ∀ (m i j : Nat), 0 ≤ endF kid n m i → i ≤ j → (j : Int) < endF kid n m i → 0 ≤ endF kid n m j
  | 0, i, j, h, _, _ => by simp [endF] at h
  | m + 1, i, j, h0, h1, h2 => by
    by_cases e : j = i
    · subst e; exact h0
    · rw [endF] at h0 h2
      by_cases c : n ≤ i
      · rw [if_pos c] at h0; omega
      · rw [if_neg c] at h0 h2
        obtain ⟨s', a1, a2, a3⟩ := kidsF_within (fun i hi => endF_far kid n m i hi) _ (i + 1) j (by exact_mod_cast h0) (by omega) (by exact_mod_cast h2)
        have h3 := endF_within kid n m s' j (by omega) a1 a2
        rw [endF_mono kid n m j h3]
        exact h3

/-- The places of kids, each where the one ahead ends. -/
def kpF (f : Nat → Int) : Nat → Nat → List Nat
  | 0, _ => []
  | k + 1, s => s :: kpF f k (f s).toNat

/-- What lies behind: the next one on the stack, from e on. -/
def restP (kid : Nat → Int) (n e : Nat) (st : List Nat) : List (Nat × Nat) := match popF st with
  | none => []
  | some st' => trP kid (n - e) e st'

/-- A part of what is told: places s up to e, all deeper than d, the kids of one at d being those. -/
structure SubT (d s e : Nat) (T : List (Nat × Nat)) (kp : List Nat) : Prop where
  deep : ∀ p ∈ T, d < p.2
  places : T.map (·.1) = List.range' s (e - s)
  kids : (T.filter (fun p => p.2 == d + 1)).map (·.1) = kp
  le : s ≤ e

theorem range'_cat (s a b : Nat) (h1 : s ≤ a) (h2 : a ≤ b) : List.range' s (a - s) ++ List.range' a (b - a) = List.range' s (b - s) := by
  have := List.range'_append (s := s) (m := a - s) (n := b - a) (step := 1)
  rw [Nat.one_mul, show s + (a - s) = a by omega, show a - s + (b - a) = b - s by omega] at this
  exact this

theorem sub_kids (kid : Nat → Int) (n m : Nat)
    (C : ∀ (i e : Nat) (st : List Nat), i < n → endF kid n m i = (e : Int) → ∃ T, trP kid (n - i) i st = (i, st.length) :: T ++ restP kid n e st ∧ (∀ p ∈ T, st.length < p.2) ∧ T.map (·.1) = List.range' (i + 1) (e - (i + 1)))
    (st : List Nat) : ∀ (K s e : Nat), s ≤ n → kidsF (endF kid n m) K s = (e : Int) → ∃ T, restP kid n s (K :: st) = T ++ restP kid n e st ∧ SubT st.length s e T (kpF (endF kid n m) K s)
  | 0, s, e, hs, he => by
    simp only [kidsF] at he
    obtain rfl : s = e := by omega
    exact ⟨[], rfl, ⟨fun p hp => absurd hp (by simp), by simp, rfl, Nat.le_refl _⟩⟩
  | K + 1, s, e, hs, he => by
    rw [kidsF_front _ (fun i => (endF_range kid n m i).1)] at he
    have h0 : 0 ≤ endF kid n m s := by
      by_cases c : 0 ≤ endF kid n m s
      · exact c
      · have := (endF_range kid n m s).1
        rw [show endF kid n m s = -1 by omega, kidsF_minus] at he
        omega
    obtain ⟨e1, h1⟩ := nat_of h0
    have hfar := endF_far kid n m s h0
    have hr := (endF_range kid n m s).2
    have hsn : s < n := by omega
    obtain ⟨T1, a1, a2, a3⟩ := C s e1 (K :: st) hsn h1
    rw [h1] at he
    obtain ⟨T2, b1, b2⟩ := sub_kids kid n m C st K e1 e (by omega) he
    refine ⟨(s, st.length + 1) :: T1 ++ T2, ?_, ?_⟩
    · show trP kid (n - s) s (K :: st) = _
      rw [a1, b1]
      simp
    · have hle := b2.le
      refine ⟨fun p hp => ?_, ?_, ?_, by omega⟩
      · rcases List.mem_append.1 hp with h | h
        · rcases List.mem_cons.1 h with rfl | h
          · exact Nat.lt_succ_self _
          · have := a2 p h; simp at this; omega
        · exact b2.deep p h
      · rw [List.map_append, List.map_cons, a3, b2.places, ← range'_cat s e1 e (by omega) hle]
        congr 1
        rw [show e1 - s = (e1 - (s + 1)) + 1 by omega, List.range'_succ]
      · rw [List.filter_append, List.map_append, b2.kids, List.filter_cons_of_pos (by simp), List.filter_eq_nil_iff.2 (fun p hp => by have := a2 p hp; simp at this ⊢; omega)]
        rw [kpF, h1]
        rfl

theorem sub_tree (kid : Nat → Int) (n : Nat) : ∀ (m i e : Nat) (st : List Nat), i < n → endF kid n m i = (e : Int) → ∃ T, trP kid (n - i) i st = (i, st.length) :: T ++ restP kid n e st ∧ (∀ p ∈ T, st.length < p.2) ∧ T.map (·.1) = List.range' (i + 1) (e - (i + 1))
  | 0, i, e, st, hi, he => by simp [endF] at he
  | m + 1, i, e, st, hi, he => by
    rw [endF, if_neg (by omega)] at he
    obtain ⟨T, h1, h2⟩ := sub_kids kid n m (fun i e st => sub_tree kid n m i e st) st (kid i).toNat (i + 1) e (by omega) (by exact_mod_cast he)
    refine ⟨T, ?_, h2.deep, h2.places⟩
    have hx : trP kid (n - i) i st = (i, st.length) :: restP kid n (i + 1) ((kid i).toNat :: st) := by
      rw [show n - i = (n - (i + 1)) + 1 by omega, trP]
      unfold restP
      cases popF ((kid i).toNat :: st) <;> rfl
    rw [hx, h1]
    simp

theorem kpF_mono {f g : Nat → Int} (h : ∀ i, 0 ≤ f i → g i = f i) (hf : ∀ i, -1 ≤ f i) : ∀ (K s : Nat), 0 ≤ kidsF f K s → kpF g K s = kpF f K s
  | 0, s, _ => rfl
  | K + 1, s, h0 => by
    rw [kidsF_front _ hf] at h0
    have h1 : 0 ≤ f s := by
      by_cases c : 0 ≤ f s
      · exact c
      · have := hf s
        rw [show f s = -1 by omega, kidsF_minus] at h0
        omega
    obtain ⟨e, he⟩ := nat_of h1
    rw [kpF, kpF, h s h1, he, Int.toNat_natCast]
    rw [he] at h0
    rw [kpF_mono h hf K e h0]

/-- What is told of the part at i of a right tree. -/
theorem tree_part {x : Nat → It} {n i : Nat} (ht : treeV x n = true) (hi : i < n) : ∃ (e : Nat) (T : List (Nat × Nat)), endF (fun j => (x j).kid) n 13 i = (e : Int) ∧ i < e ∧ e ≤ n ∧ trP (fun j => (x j).kid) (n - i) i [] = (i, 0) :: T ∧ SubT 0 (i + 1) e T (kpF (endF (fun j => (x j).kid) n 13) (x i).kid.toNat (i + 1)) := by
  unfold treeV at ht
  rw [decide_eq_true_eq] at ht
  obtain ⟨h1, h2, h3, h4⟩ := ht
  have h5 := endF_within (fun j => (x j).kid) n 13 0 i (by omega) (Nat.zero_le _) (by omega)
  obtain ⟨e, he⟩ := nat_of h5
  have hfar := endF_far _ n 13 i h5
  have hr := (endF_range (fun j => (x j).kid) n 13 i).2
  have he2 := he
  rw [endF, if_neg (by omega)] at he2
  obtain ⟨T, a1, a2⟩ := sub_kids (fun j => (x j).kid) n 12 (fun i e st => sub_tree _ n 12 i e st) [] (x i).kid.toNat (i + 1) e (by omega) (by exact_mod_cast he2)
  refine ⟨e, T, he, by omega, by omega, ?_, ?_⟩
  · have hx : trP (fun j => (x j).kid) (n - i) i [] = (i, 0) :: restP (fun j => (x j).kid) n (i + 1) ((x i).kid.toNat :: []) := by
      rw [show n - i = (n - (i + 1)) + 1 by omega, trP]
      unfold restP
      cases popF ((x i).kid.toNat :: []) <;> rfl
    rw [hx, a1]
    simp [restP, popF]
  · rw [kpF_mono (endF_mono _ n 12) (fun i => (endF_range _ n 12 i).1) _ _ (by rw [show (((i + 1 : Nat)) : Int) = (i : Int) + 1 by omega, he2]; omega)]
    exact a2
end

section
set_option linter.unusedVariables false
set_option linter.unusedSimpArgs false

open Go.RowKit Go.Shelf

attribute [local go_sem] Oper.semAt_some

/-- A tree has an item there. -/
def hasB (x : Nat → It) (n : Nat) (z : Int) : Bool := treeV x n && (decide (0 ≤ z) && decide (z < n))

set_option maxHeartbeats 800000 in
theorem hasItem_any (a : Option Addr) (b off n cap : Nat) (x : Nat → It) (z : Int) (w : World) (hs : ISeg w a b off n x) (hn : n ≤ 1048576) (hk : ∀ i, i < n → (x i).kid ≤ 9223372036854775807) :
    Calls Tryd.prog 34 #[.slice a n cap, .int .i64 z] w fun e w' => e = .returned (.bool (hasB x n z)) ∧ Ext w w' := by
  have HT := hide (implTree_any a b off n cap x w hs hn hk)
  have HV : Hid (hasB x n z = (treeV x n && (decide (0 ≤ z) && decide (z < n)))) := rfl
  generalize hasB x n z = R at *
  generalize treeV x n = T at *
  cases T
  · go_enter Tryd.func34, Tryd.ntmps34
    go_wp2_with (go_at_call 17; refine HT.out.mono ?_; rintro e w1 ⟨rfl, hE⟩; have HE := hide hE; clear hE)
    go_ret
    exact ⟨ret_bool (by rw [HV.out]; rfl), HE.out⟩
  · by_cases z0 : 0 ≤ z
    · by_cases z1 : z < n
      · go_enter Tryd.func34, Tryd.ntmps34
        go_wp2_with (go_at_call 17; refine HT.out.mono ?_; rintro e w1 ⟨rfl, hE⟩; have HE := hide hE; clear hE)
        go_ret
        exact ⟨ret_bool (by rw [HV.out]; simp [z0, z1]), HE.out⟩
      · go_enter Tryd.func34, Tryd.ntmps34
        go_wp2_with (go_at_call 17; refine HT.out.mono ?_; rintro e w1 ⟨rfl, hE⟩; have HE := hide hE; clear hE)
        go_ret
        exact ⟨ret_bool (by rw [HV.out]; simp [z0, z1]), HE.out⟩
    · go_enter Tryd.func34, Tryd.ntmps34
      go_wp2_with (go_at_call 17; refine HT.out.mono ?_; rintro e w1 ⟨rfl, hE⟩; have HE := hide hE; clear hE)
      go_ret
      exact ⟨ret_bool (by rw [HV.out]; simp; omega), HE.out⟩

theorem tree_good {x : Nat → It} {n : Nat} (h : treeV x n = true) : 1 ≤ n ∧ n ≤ 300 ∧ ∀ i, i < n → itGood (x i) := by
  unfold treeV at h
  rw [decide_eq_true_eq] at h
  exact ⟨h.1, h.2.1, h.2.2.1⟩

/-- The item there is one that is made of others. -/
def mdB (x : Nat → It) (n : Nat) (z : Int) : Bool := hasB x n z && decide ((x z.toNat).tag / 32 % 2 = 1)

/-- Its children. -/
def mdL (x : Nat → It) (n : Nat) (z : Int) : List Int := if mdB x n z then (kpF (endF (fun j => (x j).kid) n 13) (x z.toNat).kid.toNat (z.toNat + 1)).map Int.ofNat else []

/-- A new list of numbers, and ok. -/
def GivesC (w : World) (L : List Int) (ok : Bool) (e : Ending) (w' : World) : Prop := ∃ v, e = .returned (.tuple #[v, .bool ok]) ∧ w'.ownsRow w.heap.size 3 1 v L.length (iys L) ∧ Ext w w'

/-- What Children's own memory holds between two rounds. -/
structure ChI (w w1 : World) (X O : Nat → Prop) (L : List Int) (W : World) : Prop where
  it : ∃ v, W.cell? ⟨w1.heap.size + 1, 0, none⟩ = some v ∧ W.ownsRow w1.heap.size 3 1 v L.length (iys L) ∧ (∀ g, v.ownBlock = some g → ¬ O g ∧ ¬ X g ∧ g ≠ w1.heap.size + 1)
  fz : W.frozen? ⟨w1.heap.size + 1, 0, none⟩ = false
  ours : ∀ k, O k → w1.heap.size + 4 ≤ k
  big : w1.heap.size + 4 ≤ W.heap.size
  ext : Ext w W

theorem ChI.ab {w w1 : World} (hw : w.heap.size ≤ w1.heap.size) (X : Nat → Prop) (L : List Int) : AbO (fun O W => ChI w w1 X O L W) := by
  rintro O O' A C ⟨⟨v, h1, h2, h3⟩, h4, h5, h6, h7⟩ hs
  have hb : C.heap[w1.heap.size + 1]? = A.heap[w1.heap.size + 1]? := hs.same _ (by omega) (fun h => by have := h5 _ h; omega)
  refine ⟨⟨v, ?_, ?_, fun g hg => ⟨fun h => ?_, (h3 g hg).2⟩⟩, ?_, fun k hk => ?_, Nat.le_trans h6 hs.size, ⟨hs.os.trans h7.os, hs.tape.trans h7.tape, hs.output.trans h7.output, Nat.le_trans h7.size hs.size, fun k hk => (hs.same k (by omega) (fun h => by have := h5 _ h; omega)).trans (h7.block k hk)⟩⟩
  · rw [World.cell?_of_block (a := ⟨w1.heap.size + 1, 0, none⟩) hb]; exact h1
  · refine ⟨h2.1, ?_⟩
    rcases h2.2 with h0 | ⟨g, cap, cur, rfl, hbg, hg, rest⟩
    · exact .inl h0
    · exact .inr ⟨g, cap, cur, rfl, hbg, (hs.same g (Array.getElem?_eq_some_iff.1 hg).1 (h3 g rfl).1).trans hg, rest⟩
  · rcases (hs.own g).1 h with h | h
    · exact (h3 g hg).1 h
    · have := owns_blk h2 hg; omega
  · rw [World.frozen?_of_block (a := ⟨w1.heap.size + 1, 0, none⟩) hb]; exact h4
  · rcases (hs.own k).1 hk with h | h
    · exact h5 k h
    · omega
end

section
set_option linter.unusedVariables false
set_option linter.unusedSimpArgs false

open Go.RowKit

/-- The same items but for where their bodies lie. -/
def SameI (y : Nat → It) (x : Nat → It) (i m : Nat) : Prop := ∀ j, j < m → (y j).tag = (x (i + j)).tag ∧ (y j).kid = (x (i + j)).kid ∧ (y j).len = (x (i + j)).len ∧ (y j).f = (x (i + j)).f

theorem SameI.step {y x : Nat → It} {i m : Nat} {t : It} (h : SameI y x i m) (h1 : t.tag = (x (i + m)).tag) (h2 : t.kid = (x (i + m)).kid) (h3 : t.len = (x (i + m)).len) (h4 : t.f = (x (i + m)).f) : SameI (updI y m t) x i (m + 1) := fun j hj => by
  by_cases c : j = m
  · subst c; rw [updI_same]; exact ⟨h1, h2, h3, h4⟩
  · rw [updI_other _ _ c]; exact h j (by omega)

theorem IAcc.nil (w : World) : IAcc w.heap.size (w.alloc (.cells #[] 55)) (.slice (some ⟨w.heap.size, 0, none⟩) 0 0) 0 (fun _ => ⟨0, 0, none, 0, 0, 0, 0, fun _ => 0⟩) :=
  ⟨World.ownsRow_made (base := w.heap.size) (e := 55) (size := 3) w #[] 0 (Nat.le_refl _) (by simp) rfl, fun i hi => absurd hi (by omega), fun i hi => absurd hi (by omega), fun i j hi => absurd hi (by omega)⟩
end

end Go.Proofs.YtmcdikbcmikihaaDoor
