/- Plain facts: worlds in which the cursor's block may have turned. Nothing of the program. Walks: lists of items copied (the laws' own helpers). Walks: the model's TreeOk: l7End. Numbers: a tree told by a stack of what is still to come, and by places behind its parts. Nothing of the program. A range over an iterator that keeps cells of its own between two rounds. What the caller knows lies below the place where the loop began; what the iterator knows lies behind the loop's record; a round turns nothing of both but what lies below. Nothing of the program. Numbers: the program's walk over a tree as a check of what an iterator tells. Nothing of the program. Walks: the program's iterator below: what it tells, whatever its caller does with it. -/
import Derived.Test.YtmcdikbcmikihaaDoorTq01
import Derived.Test.YtmcdikbcmikihaaDoorTq02
import Derived.RangeFuncNested
import Derived.RangeFuncBound
import Derived.RangeFuncCalls
import Derived.RangeFuncLeaves
import Derived.Below
import Derived.Shelf.Abstract
import Derived.Shelf.RegionOpen
import Derived.WalkKit
import Derived.OwnWalkIn
import Derived.TacticsInMore
import Derived.LoopNIn
import Derived.LoopIn
import Derived.Maps.AppendAt
namespace Go.Proofs.YtmcdikbcmikihaaDoor

section
set_option linter.unusedVariables false
set_option linter.unusedSimpArgs false

open Go.RowKit

theorem gb_trans {C : Nat} {w w1 w2 : World} (h : w.grownBy w1 (some C)) (k : w1.grownBy w2 (some C)) : w.grownBy w2 (some C) :=
  ⟨k.os.trans h.os, k.tape.trans h.tape, k.output.trans h.output, Nat.le_trans h.size k.size, fun i hi hn => (k.block i (Nat.lt_of_lt_of_le hi h.size) hn).trans (h.block i hi hn)⟩

theorem gb_below {C B : Nat} {w w1 : World} (h : Below B w w1) (hB : w.heap.size ≤ B) : w.grownBy w1 (some C) :=
  ⟨h.os, h.tape, h.output, h.size, fun i hi _ => h.block i (by omega)⟩

theorem gb_later {C B : Nat} {w w1 w2 : World} (h : w.grownBy w1 (some C)) (k : Below B w1 w2) (hB : w.heap.size ≤ B) : w.grownBy w2 (some C) :=
  ⟨k.os.trans h.os, k.tape.trans h.tape, k.output.trans h.output, Nat.le_trans h.size k.size, fun i hi hn => (k.block i (by omega)).trans (h.block i hi hn)⟩

theorem gb_touch {C : Nat} {w w1 : World} (h : Touch C w w1) : w.grownBy w1 (some C) := h.grown

theorem owns_gb {C : Nat} {w w1 : World} {base n : Nat} {e : TypeId} {v : Value} {xs : List Value} (h : w.ownsRow base e 1 v n xs) (k : w.grownBy w1 (some C)) (hC : C < base) : w1.ownsRow base e 1 v n xs := by
  refine h.kept k ?_
  cases hv : v.ownBlock with
  | none => exact .inl rfl
  | some g => have := (h.lt g hv).1; exact .inr (fun e => by injection e with e; omega)

theorem seg_list (w : World) (xs : List Int) : Seg (w.alloc (.cells (xs.map (Value.int .i64)).toArray 3)) (some ⟨w.heap.size, 0, none⟩) w.heap.size 0 xs.length (fun i => xs.getD i 0) :=
  ⟨fun _ => rfl, fun i hi => by
    have := Blk.alloc w (xs.map (Value.int .i64)) 3
    rw [Nat.zero_add]
    exact (this i _ (by simp [List.getElem?_map, List.getElem?_eq_getElem hi, List.getD, hi])).1⟩
end

section
set_option linter.unusedVariables false
set_option linter.unusedSimpArgs false

open Go.RowKit

/-- The item with its bytes in block B. -/
def It.at (x : It) (B : Nat) : It := { x with ad := some ⟨B, 0, none⟩, blk := B, off := 0, cap := x.len }

/-- The cells of an item, of an empty one. -/
def itC (x : It) : Nat → Value
  | 0 => .int .i64 x.tag
  | 1 => .slice x.ad x.len x.cap
  | _ => .int .i64 x.kid

def zeC : Nat → Value
  | 0 => .int .i64 0
  | 1 => .slice none 0 0
  | _ => .int .i64 0

/-- The row of a list of items of which the first k are there. -/
def rowC (y : Nat → It) (k j : Nat) : Value := if j / 3 < k then itC (y (j / 3)) (j % 3) else zeC (j % 3)

theorem rowC_at {y : Nat → It} {k i : Nat} (h : i < k) (r : Nat) (hr : r < 3) : rowC y k (i * 3 + r) = itC (y i) r := by
  unfold rowC
  rw [show (i * 3 + r) / 3 = i by omega, show (i * 3 + r) % 3 = r by omega, if_pos h]

/-- Items with their bytes in blocks laid one behind the other. -/
def laidI (x : Nat → It) (S : Nat) (i : Nat) : It := (x i).at (S + 4 + 4 * i)

structure ICopying (w wr : World) (n k : Nat) (x : Nat → It) : Prop where
  below : Below w.heap.size w wr
  size : wr.heap.size = w.heap.size + 1 + 4 * k
  row : wr.rowIs w.heap.size 55 (n * 3) (rowC (laidI x w.heap.size) k)
  body : ∀ i, i < k → wr.rowIs (w.heap.size + 4 + 4 * i) 5 (x i).len (fun j => .int .u8 ((x i).f j))

/-- What has been copied is a list of items. -/
theorem ICopying.seg {w w' : World} {n : Nat} {x : Nat → It} (h : ICopying w w' n n x) (hl : ∀ i, i < n → (x i).len ≤ 9223372036854775807) : ISeg w' (some ⟨w.heap.size, 0, none⟩) w.heap.size 0 n (laidI x w.heap.size) := by
  refine ⟨fun _ => rfl, fun i hi => ?_, fun i hi => ?_, fun i hi => ?_, fun i hi => ?_, fun i hi => hl i hi⟩
  · rw [Nat.zero_add]; exact (h.row.cell (i := i * 3) (by omega)).trans (congrArg some (rowC_at (r := 0) hi (by omega)))
  · rw [Nat.zero_add]; exact (h.row.cell (by omega)).trans (congrArg some (rowC_at hi 1 (by omega)))
  · rw [Nat.zero_add]; exact (h.row.cell (by omega)).trans (congrArg some (rowC_at hi 2 (by omega)))
  · exact BSeg.of_row (h.body i hi) (Nat.le_refl _)
end

section
set_option linter.unusedVariables false
set_option linter.unusedSimpArgs false

open Go.RowKit

/-- k trees, one behind the other; f tells the place behind one, or -1. -/
def kidsF (f : Nat → Int) : Nat → Int → Int
  | 0, s => s
  | k + 1, s => if kidsF f k s < 0 then -1 else f (kidsF f k s).toNat

/-- The place behind the tree at i, where m more may be around; -1 where it is none. -/
def endF (kid : Nat → Int) (n : Nat) : Nat → Nat → Int
  | 0, _ => -1
  | m + 1, i => if n ≤ i then -1 else kidsF (endF kid n m) (kid i).toNat (i + 1)

theorem kidsF_range {f : Nat → Int} {n : Nat} (hf : ∀ i, -1 ≤ f i ∧ f i ≤ n) {s : Int} (s0 : -1 ≤ s) (s1 : s ≤ n) (k : Nat) : -1 ≤ kidsF f k s ∧ kidsF f k s ≤ n := by
  induction k with
  | zero => exact ⟨s0, s1⟩
  | succ k ih => unfold kidsF; split
                 · omega
                 · exact hf _

theorem kidsF_neg {f : Nat → Int} {s : Int} {k : Nat} (h : kidsF f k s < 0) (n : Nat) (hk : k < n) : kidsF f n s = -1 := by
  induction n with
  | zero => omega
  | succ n ih => by_cases e : k = n
                 · subst e; unfold kidsF; rw [if_pos h]
                 · unfold kidsF; rw [if_pos (by rw [ih (by omega)]; omega)]

theorem endF_range (kid : Nat → Int) (n : Nat) : ∀ (m i : Nat), -1 ≤ endF kid n m i ∧ endF kid n m i ≤ n
  | 0, i => by unfold endF; omega
  | m + 1, i => by
    unfold endF
    split
    · omega
    · exact kidsF_range (endF_range kid n m) (by omega) (by omega) _
end

section
set_option linter.unusedVariables false
set_option linter.unusedSimpArgs false

open Go.RowKit

theorem kidsF_minus (f : Nat → Int) (k : Nat) : kidsF f k (-1) = -1 := by
  induction k with
  | zero => rfl
  | succ k ih => unfold kidsF; rw [ih]; rfl

/-- The first of k + 1 trees ahead. -/
theorem kidsF_front (f : Nat → Int) (hf : ∀ i, -1 ≤ f i) (s : Nat) (k : Nat) : kidsF f (k + 1) s = kidsF f k (f s) := by
  induction k with
  | zero => simp [kidsF]; omega
  | succ k ih =>
    rw [kidsF, ih]
    conv => rhs; rw [kidsF]

/-- What comes of place r, where st is still to come of each item around, the innermost first. -/
def contF (kid : Nat → Int) (n : Nat) : List Nat → Int → Int
  | [], r => r
  | c :: st, r => contF kid n st (kidsF (endF kid n (12 - st.length)) c r)

theorem contF_minus (kid : Nat → Int) (n : Nat) : ∀ st, contF kid n st (-1) = -1
  | [] => rfl
  | c :: st => by unfold contF; rw [kidsF_minus, contF_minus kid n st]

/-- The stack behind an item: what is done is taken away, of the next one is taken. -/
def popF : List Nat → Option (List Nat)
  | [] => none
  | 0 :: st => popF st
  | (c + 1) :: st => some (c :: st)

theorem contF_pop (kid : Nat → Int) (n : Nat) (r : Nat) : ∀ st : List Nat, contF kid n st r = match popF st with
    | none => (r : Int)
    | some st' => contF kid n st' (endF kid n (13 - st'.length) r)
  | [] => rfl
  | 0 :: st => by
    show contF kid n st (kidsF _ 0 r) = _
    rw [show kidsF (endF kid n (12 - st.length)) 0 r = r from rfl, contF_pop kid n r st]
    rfl
  | (c + 1) :: st => by
    show contF kid n st (kidsF _ (c + 1) r) = contF kid n st (kidsF _ c _)
    rw [kidsF_front _ (fun i => (endF_range kid n _ i).1)]
    simp only [List.length_cons]
    rw [show 13 - (st.length + 1) = 12 - st.length by omega]

/-- A step of the walk. -/
theorem contF_step (kid : Nat → Int) (n i : Nat) (st : List Nat) (hi : i < n) (hd : st.length ≤ 12) :
    contF kid n st (endF kid n (13 - st.length) i) = contF kid n ((kid i).toNat :: st) ((i + 1 : Nat) : Int) := by
  show _ = contF kid n st (kidsF _ _ _)
  rw [show 13 - st.length = (12 - st.length) + 1 by omega]
  conv => lhs; rw [endF]
  rw [if_neg (by omega)]
  rfl

theorem contF_deep (kid : Nat → Int) (n i : Nat) (st : List Nat) (h : n ≤ i ∨ 12 < st.length) : contF kid n st (endF kid n (13 - st.length) i) = -1 := by
  have : endF kid n (13 - st.length) i = -1 := by
    by_cases h2 : 12 < st.length
    · rw [show 13 - st.length = 0 by omega]; rfl
    · rw [show 13 - st.length = (12 - st.length) + 1 by omega, endF, if_pos (by omega)]
  rw [this, contF_minus]

theorem kidsF_far (f : Nat → Int) (hf : ∀ i, 0 ≤ f i → (i : Int) + 1 ≤ f i) (s : Int) (k : Nat) (h : 0 ≤ kidsF f k s) : s + k ≤ kidsF f k s := by
  induction k with
  | zero => simp [kidsF]
  | succ k ih =>
    rw [kidsF] at h ⊢
    split at h
    · omega
    · rename_i h1
      rw [if_neg h1]
      have := hf _ h
      have := ih (by omega)
      omega

theorem endF_far (kid : Nat → Int) (n : Nat) : ∀ (m i : Nat), 0 ≤ endF kid n m i → (i : Int) + 1 ≤ endF kid n m i
  | 0, i, h => by rw [endF] at h; omega
  | m + 1, i, h => by
    rw [endF] at h ⊢
    split at h
    · omega
    · rename_i h1
      rw [if_neg h1]
      have := kidsF_far _ (endF_far kid n m) _ _ h
      omega

theorem contF_far (kid : Nat → Int) (n : Nat) : ∀ (st : List Nat) (r : Int), -1 ≤ r → r ≤ n → 0 ≤ contF kid n st r → r + (st.sum : Nat) ≤ contF kid n st r
  | [], r, _, _, h => by simp [contF]
  | c :: st, r, r0, r1, h => by
    rw [contF] at h ⊢
    obtain ⟨k0, k1⟩ := kidsF_range (endF_range kid n (12 - st.length)) r0 r1 c
    have h1 := contF_far kid n st _ k0 k1 h
    by_cases hk : 0 ≤ kidsF (endF kid n (12 - st.length)) c r
    · have := kidsF_far _ (endF_far kid n _) _ _ hk
      simp only [List.sum_cons]
      omega
    · exfalso
      have e : kidsF (endF kid n (12 - st.length)) c r = -1 := by omega
      rw [e, contF_minus] at h
      omega

theorem popF_sum : ∀ (st st' : List Nat), popF st = some st' → st'.sum + 1 = st.sum
  | [], st', h => by simp [popF] at h
  | 0 :: st, st', h => by have := popF_sum st st' h; simpa using this
  | (c + 1) :: st, st', h => by
    simp [popF] at h
    subst h
    simp; omega

theorem popF_none : ∀ (st : List Nat), popF st = none → st.sum = 0
  | [], _ => rfl
  | 0 :: st, h => by have := popF_none st h; simpa using this
  | (c + 1) :: st, h => by simp [popF] at h

/-- An item is well. -/
def itGood (x : It) : Prop := 0 ≤ x.tag ∧ x.tag ≤ 255 ∧ x.tag % 32 ≠ 31 ∧ 0 ≤ x.kid ∧ x.kid ≤ 300 ∧ (x.tag / 32 % 2 = 1 → x.len = 0) ∧ (x.tag / 32 % 2 ≠ 1 → x.kid = 0)

instance (x : It) : Decidable (itGood x) := by unfold itGood; infer_instance

/-- A list of items is one tree. -/
def treeV (x : Nat → It) (n : Nat) : Bool := decide (1 ≤ n ∧ n ≤ 300 ∧ (∀ i, i < n → itGood (x i)) ∧ endF (fun j => (x j).kid) n 13 0 = n)

/-- What the program asks of an item. -/
def itP (x : It) : Prop := 0 ≤ x.tag ∧ x.tag ≤ 255 ∧ x.tag % 32 ≠ 31 ∧ (x.tag / 32 % 2 = 1 → 0 ≤ x.kid ∧ x.len = 0) ∧ (x.tag / 32 % 2 ≠ 1 → x.kid = 0)

instance (x : It) : Decidable (itP x) := by unfold itP; infer_instance

theorem itP_of {x : It} (h : itGood x) : itP x := by
  obtain ⟨h1, h2, h3, h4, h5, h6, h7⟩ := h
  exact ⟨h1, h2, h3, fun m => ⟨h4, h6 m⟩, h7⟩

theorem itGood_of {x : It} (h : itP x) (h5 : x.kid ≤ 300) : itGood x := by
  obtain ⟨h1, h2, h3, h4, h7⟩ := h
  exact ⟨h1, h2, h3, by by_cases m : x.tag / 32 % 2 = 1
                        · exact (h4 m).1
                        · rw [h7 m]; omega, h5, fun m => (h4 m).2, h7⟩

theorem itP_kid {x : It} (h : itP x) : 0 ≤ x.kid := by
  obtain ⟨h1, h2, h3, h4, h7⟩ := h
  by_cases m : x.tag / 32 % 2 = 1
  · exact (h4 m).1
  · rw [h7 m]; omega

/-- The program's walk: from place i on, with st still to come of each item around and u untold. -/
def runP (x : Nat → It) : Nat → Nat → List Nat → Int → Bool
  | 0, _, _, u => decide (u = 0)
  | f + 1, i, st, u => if ¬ itP (x i) ∨ 12 < st.length ∨ u < (x i).kid then false else
    match popF ((x i).kid.toNat :: st) with
    | none => decide (u - (x i).kid = 0)
    | some st' => runP x f (i + 1) st' (u - (x i).kid)

theorem runP_tree (x : Nat → It) (n : Nat) (hn : n ≤ 300) : ∀ (f i : Nat) (st : List Nat) (u : Int), i + f = n → 0 ≤ u → u + (st.sum : Nat) + i + 1 = n → (∀ j, j < i → itGood (x j)) →
    runP x f i st u = decide ((∀ j, j < n → itGood (x j)) ∧ contF (fun j => (x j).kid) n st (endF (fun j => (x j).kid) n (13 - st.length) i) = n)
  | 0, i, st, u, h1, h2, h3, h4 => by omega
  | f + 1, i, st, u, h1, h2, h3, h4 => by
    rw [runP]
    by_cases hb : ¬ itP (x i) ∨ 12 < st.length ∨ u < (x i).kid
    · rw [if_pos hb]
      symm
      refine decide_eq_false (fun ⟨g, e⟩ => ?_)
      rcases hb with hb | hb | hb
      · exact hb (itP_of (g i (by omega)))
      · rw [contF_deep _ _ _ _ (Or.inr hb)] at e; omega
      · by_cases hd : st.length ≤ 12
        · rw [contF_step _ _ _ _ (by omega) hd] at e
          have hk := itP_kid (itP_of (g i (by omega)))
          have := contF_far (fun j => (x j).kid) n ((x i).kid.toNat :: st) ((i + 1 : Nat) : Int) (by omega) (by omega) (by rw [e]; omega)
          rw [e] at this
          simp only [List.sum_cons] at this
          omega
        · rw [contF_deep _ _ _ _ (Or.inr (by omega))] at e; omega
    · rw [if_neg hb]
      have hp : itP (x i) := by
        by_cases h : itP (x i)
        · exact h
        · exact absurd (Or.inl h) hb
      have hd : st.length ≤ 12 := by
        by_cases h : st.length ≤ 12
        · exact h
        · exact absurd (Or.inr (Or.inl (by omega))) hb
      have hu : (x i).kid ≤ u := by
        by_cases h : (x i).kid ≤ u
        · exact h
        · exact absurd (Or.inr (Or.inr (by omega))) hb
      have hk := itP_kid hp
      have hg : ∀ j, j < i + 1 → itGood (x j) := fun j hj => by
        by_cases e : j = i
        · subst e; exact itGood_of hp (by omega)
        · exact h4 j (by omega)
      rw [contF_step _ _ _ _ (by omega) hd, contF_pop]
      cases hq : popF ((x i).kid.toNat :: st) with
      | none =>
        have := popF_none _ hq
        simp only [List.sum_cons] at this
        simp only
        rw [decide_eq_decide]
        constructor
        · intro h
          exact ⟨fun j hj => hg j (by omega), by omega⟩
        · rintro ⟨_, h⟩
          omega
      | some st' =>
        have := popF_sum _ _ hq
        simp only [List.sum_cons] at this
        simp only
        exact runP_tree x n hn f (i + 1) st' _ (by omega) (by omega) (by omega) hg

/-- The program's answer is the model's. -/
theorem runP_treeV (x : Nat → It) (n : Nat) (h1 : 1 ≤ n) (hn : n ≤ 300) : runP x n 0 [] ((n : Int) - 1) = treeV x n := by
  rw [runP_tree x n hn n 0 [] _ (by omega) (by omega) (by simp) (fun j hj => absurd hj (Nat.not_lt_zero _))]
  unfold treeV
  rw [decide_eq_decide]
  exact ⟨fun h => ⟨h1, hn, h.1, h.2⟩, fun h => ⟨h.2.2.1, h.2.2.2⟩⟩
end

section
set_option linter.unusedVariables false
set_option linter.unusedSimpArgs false

open Go Go.RowKit

/-- What is known of the memory below B alone. -/
def Lw (B : Nat) (I : World → Prop) : Prop := ∀ W W', I W → Below B W W' → I W'

/-- A round's word: from B on nothing that lay there has turned, nor what X tells. -/
structure Rd (X : Nat → Prop) (B : Nat) (W W' : World) : Prop where
  os : W'.os = W.os
  tape : W'.tape = W.tape
  output : W'.output = W.output
  size : W.heap.size ≤ W'.heap.size
  same : ∀ k, (B ≤ k ∨ X k) → k < W.heap.size → W'.heap[k]? = W.heap[k]?

theorem Rd.refl (X : Nat → Prop) (B : Nat) (W : World) : Rd X B W W := ⟨rfl, rfl, rfl, Nat.le_refl _, fun _ _ _ => rfl⟩

theorem Rd.trans {X : Nat → Prop} {B : Nat} {A C D : World} (h : Rd X B A C) (k : Rd X B C D) : Rd X B A D :=
  ⟨k.os.trans h.os, k.tape.trans h.tape, k.output.trans h.output, Nat.le_trans h.size k.size, fun i hi hl => (k.same i hi (Nat.lt_of_lt_of_le hl h.size)).trans (h.same i hi hl)⟩

theorem Rd.mono {X : Nat → Prop} {B C : Nat} {A D : World} (h : Rd X B A D) (hc : B ≤ C) : Rd X C A D := ⟨h.os, h.tape, h.output, h.size, fun i hi hl => h.same i (hi.imp (Nat.le_trans hc) id) hl⟩

/-- How a round's body may be left. -/
def bodyEnds {α : Type} (X : Nat → Prop) (B : Nat) (I : List α → World → Prop) (Ix : Go.Code → List α → World → Prop) (xs : List α) (W : World) : Exit → Act → World → Prop
  | .normal, _, W' => Rd X B W W' ∧ I xs W'
  | .ret, _, W' => Rd X B W W' ∧ Ix .ret xs W'
  | .exit i, _, W' => Rd X B W W' ∧ Ix (.exit i) xs W'
  | _, _, _ => False

/-- The iterator's word: whatever the caller knows below its own memory is led through all that it tells. -/
def Tells {α : Type} (n : Nat) (P : Program) (g : Nat) (lb : Array Value) (encs : α → Array Value) (S Sp : List α → Prop) (N : Nat) (X : Nat → Prop) (w0 : World) : Prop :=
  ∀ (l : Nat) (J Jx : List α → World → Prop) (W : World), Below w0.heap.size w0 W → (∀ s, Lw W.heap.size (J s)) → (∀ s, Lw W.heap.size (Jx s)) →
    (∀ pre x W1, J pre W1 → W.heap.size ≤ W1.heap.size → pre.length < N → YieldAt Fence.wide (n - 1) P l (encs x) W1 fun e W' =>
      (e = .returned (.bool true) ∧ J (pre ++ [x]) W' ∧ Rd X W.heap.size W1 W') ∨ (e = .returned (.bool false) ∧ Jx (pre ++ [x]) W')) →
    J [] W →
    CallsIn Fence.wide n P g (#[.func (.yield l) #[] #[]] ++ lb) W fun e W' => (∃ v, e = .returned v) ∧ ((∃ xs, S xs ∧ J xs W') ∨ (∃ pre, Sp pre ∧ Jx pre W'))

theorem putObj_below (B : Nat) (W : World) (l : Nat) (o : Obj) (h : B ≤ l) : Below B W (W.putObj l o) :=
  ⟨rfl, rfl, rfl, by simp, fun k hk => World.putObj_heap_other (by omega)⟩

theorem putObj_rd (X : Nat → Prop) (B : Nat) (W : World) (l : Nat) (o : Obj) (h : l < B) (hx : ¬ X l) : Rd X B W (W.putObj l o) :=
  ⟨rfl, rfl, rfl, by simp, fun k hk _ => World.putObj_heap_other (by rintro rfl; rcases hk with hk | hk; exact absurd hk (by omega); exact hx hk)⟩

set_option maxHeartbeats 800000 in
theorem range_own {P : Program} {n : Nat} {α : Type} {g : Operand} {ps : Array Tmp} {assign body : Go.Code} {Q : Exit → Act → World → Prop} {a : Act} {w : World} (h1 : 1 ≤ n)
    {gf : Nat} {lb : Array Value} (hg : a.eval g = .func (.func gf) #[] lb) (eg : ∀ args w, (callFunc gf args).run P w = .ok (.enter gf args) w)
    {encs : α → Array Value} {S Sp : List α → Prop} {N : Nat} {X : Nat → Prop} {w0 : World} (hX : ∀ k, X k → k < w0.heap.size) (hseq : Tells (n - 1) P gf lb encs S Sp N X w0) (hb0 : Below w0.heap.size w0 w) (hps : ∀ x, (encs x).size = ps.size)
    (I : List α → World → Prop) (Ix : Go.Code → List α → World → Prop) (hI : ∀ s, Lw w.heap.size (I s)) (hIx : ∀ c s, Lw w.heap.size (Ix c s)) (h0 : I [] w) (Ax : α → Act)
    (hassign : ∀ (l : Nat) (x : α) (W : World) (K : Act → World → Prop), K (Ax x) W →
      assign.wpIn (Fence.wide.inRound l) (n - 1 - 1) P (Exit.then K (fun _ _ _ => False)) { tmps := (ps.zip (encs x)).foldl (fun t (p, v) => t.setIfInBounds p v) a.tmps, defers := [] } W)
    (hbody : ∀ (l : Nat) (pre : List α) (x : α) (W : World), I pre W → w.heap.size + 2 ≤ W.heap.size → pre.length < N → body.wpIn (Fence.wide.inRound l) (n - 1 - 1) P (bodyEnds X w.heap.size I Ix (pre ++ [x]) W) (Ax x) W)
    (hdone : ∀ (xs : List α) (W : World), S xs → I xs W → w.heap.size < W.heap.size → W.heap[w.heap.size]? = some (.deferred (some [])) → Q .normal { a with defers := { target := .collected w.heap.size, args := #[] } :: a.defers } W)
    (hstop : ∀ (c : Go.Code) (pre : List α) (W : World), Sp pre → Ix c pre W → w.heap.size < W.heap.size → W.heap[w.heap.size]? = some (.deferred (some [])) → c.wpIn Fence.wide n P Q { a with defers := { target := .collected w.heap.size, args := #[] } :: a.defers } W) :
    (Go.Code.rangeFunc g ps assign body).wpIn Fence.wide n P Q a w := by
  refine wpIn_rangeFunc (fun fn hfn => ?_)
  -- the record that the loop lays, in a given state
  obtain ⟨R, hR⟩ : ∃ R : LoopState → Option Go.Code → Loop, R = fun st pe => { state := st, pending := pe, fn := fn, tmps := a.tmps, params := ps, assign := assign, body := body, defers := w.heap.size } := ⟨_, rfl⟩
  obtain ⟨V, hV⟩ : ∃ V, (w.alloc (.deferred (some []))).alloc (.loop (R .ready none)) = V := ⟨_, rfl⟩
  have sV : V.heap.size = w.heap.size + 2 := by rw [← hV]; simp
  have bV : Below w.heap.size w V := by rw [← hV]; exact ((Below.refl _ _).alloc (Nat.le_refl _) _).alloc (by simp) _
  have rV : V.heap[w.heap.size + 1]? = some (.loop (R .ready none)) := by
    rw [← hV]
    have := World.alloc_heap_new (w.alloc (.deferred (some []))) (.loop (R .ready none))
    rwa [World.size_alloc] at this
  have dV : V.heap[w.heap.size]? = some (.deferred (some [])) := by
    rw [← hV]
    exact (Below.heap_alloc _ _ _ (by simp)).trans (World.alloc_heap_new w _)
  refine ⟨w.heap.size + 1, [{ target := .collected w.heap.size, args := #[] }], V, { target := .fn (.func gf) lb, args := #[.func (.yield (w.heap.size + 1)) #[] #[]] }, V, gf, #[.func (.yield (w.heap.size + 1)) #[] #[]] ++ lb, V, ?e1, ?e2, fun _ _ => trivial, ?e3, fun _ => h1, ?e4⟩
  case e1 => rw [← hV, hR]; exact run_enterLoop_outer _ _ _ _ _
  case e2 =>
    simp only [resolve, hg]
    simp [go_sem]
  case e3 => simp [invoke, go_sem, eg]
  case e4 =>
    -- a block below V's end that a world behind V still has
    have keep : ∀ {A C : World} {k : Nat} {o : Obj}, Below V.heap.size A C → k < V.heap.size → A.heap[k]? = some o → C.heap[k]? = some o := fun h hk ho => (h.block _ hk).trans ho
    refine (hseq (w.heap.size + 1)
      (fun pre W => I pre W ∧ W.heap[w.heap.size + 1]? = some (.loop (R .ready none)) ∧ W.heap[w.heap.size]? = some (.deferred (some [])))
      (fun pre W => ∃ c, Ix c pre W ∧ W.heap[w.heap.size + 1]? = some (.loop (R .done (some c))) ∧ W.heap[w.heap.size]? = some (.deferred (some [])))
      V (hb0.trans (bV.mono hb0.size))
      (fun s A C ⟨i, r, d⟩ h => ⟨hI s A C i (h.mono (by omega)), keep h (by omega) r, keep h (by omega) d⟩)
      (fun s A C ⟨c, i, r, d⟩ h => ⟨c, hIx c s A C i (h.mono (by omega)), keep h (by omega) r, keep h (by omega) d⟩)
      ?round ⟨hI [] w V h0 bV, rV, dV⟩).mono ?behind
    case round =>
      rintro pre x W ⟨hi, hr, hd⟩ hsz hlen
      have lt : w.heap.size + 1 < W.heap.size := (Array.getElem?_eq_some_iff.1 hr).1
      have hy := run_yield (P := P) (args := encs x) hr (by rw [hR]; exact hps x)
      rw [hR] at hy
      refine ⟨fn, _, assign, body, hy, roundIn_of_wpIn hfn (hassign _ x W _ ⟨_, run_beginRound hr (by rw [hR]), ?_⟩)⟩
      obtain ⟨U, hU⟩ : ∃ U, W.putObj (w.heap.size + 1) (.loop { R .ready none with state := .busy }) = U := ⟨_, rfl⟩
      rw [hU]
      have bU : Below w.heap.size W U := hU ▸ putObj_below _ _ _ _ (by omega)
      have nX : ¬ X (w.heap.size + 1) := fun h => by have := hX _ h; have := hb0.size; omega
      have uU : Rd X V.heap.size W U := hU ▸ putObj_rd _ _ _ _ _ (by omega) nX
      have rU : U.heap[w.heap.size + 1]? = some (.loop { R .ready none with state := .busy }) := by rw [← hU]; exact World.putObj_heap_same lt
      have dU : U.heap[w.heap.size]? = some (.deferred (some [])) := by rw [← hU]; exact (World.putObj_heap_other (by omega)).trans hd
      have zU : W.heap.size ≤ U.heap.size := bU.size
      refine wpIn_mono (hbody _ pre x U (hI pre W U hi bU) (by omega) hlen) ?_
      -- the round is shut
      have shut : ∀ (j : Option Go.Code) (W3 : World), Rd X w.heap.size U W3 →
          (Instr.endRound (w.heap.size + 1) j).run P W3 = .ok (.bool j.isNone) (W3.putObj (w.heap.size + 1) (.loop (R (if j.isNone then .ready else .done) j))) ∧
          (W3.putObj (w.heap.size + 1) (.loop (R (if j.isNone then .ready else .done) j))).heap[w.heap.size + 1]? = some (.loop (R (if j.isNone then .ready else .done) j)) ∧
          (W3.putObj (w.heap.size + 1) (.loop (R (if j.isNone then .ready else .done) j))).heap[w.heap.size]? = some (.deferred (some [])) ∧
          Below w.heap.size W3 (W3.putObj (w.heap.size + 1) (.loop (R (if j.isNone then .ready else .done) j))) ∧ Rd X V.heap.size W3 (W3.putObj (w.heap.size + 1) (.loop (R (if j.isNone then .ready else .done) j))) := fun j W3 h3 => by
        have r3 : W3.heap[w.heap.size + 1]? = some (.loop { R .ready none with state := .busy }) := (h3.same _ (Or.inl (by omega)) (by omega)).trans rU
        have d3 : W3.heap[w.heap.size]? = some (.deferred (some [])) := (h3.same _ (Or.inl (Nat.le_refl _)) (by omega)).trans dU
        have lt3 : w.heap.size + 1 < W3.heap.size := (Array.getElem?_eq_some_iff.1 r3).1
        have := run_endRound (P := P) j r3
        rw [hR] at this ⊢
        exact ⟨this, World.putObj_heap_same lt3, (World.putObj_heap_other (by omega)).trans d3, putObj_below _ _ _ _ (by omega), putObj_rd _ _ _ _ _ (by omega) nX⟩
      rintro e a3 W3 hp
      cases e with
      | normal =>
        obtain ⟨h3, i3⟩ := hp
        obtain ⟨s1, s2, s3, s4, s5⟩ := shut none W3 h3
        exact ⟨_, _, s1, .inl ⟨rfl, ⟨hI _ _ _ i3 s4, s2, s3⟩, (uU.trans (h3.mono (by omega))).trans s5⟩⟩
      | ret =>
        obtain ⟨h3, i3⟩ := hp
        obtain ⟨s1, s2, s3, s4, s5⟩ := shut (some .ret) W3 h3
        exact ⟨_, _, s1, .inr ⟨rfl, .ret, hIx _ _ _ _ i3 s4, s2, s3⟩⟩
      | exit i =>
        obtain ⟨h3, i3⟩ := hp
        obtain ⟨s1, s2, s3, s4, s5⟩ := shut (some (.exit i)) W3 h3
        exact ⟨_, _, s1, .inr ⟨rfl, .exit i, hIx _ _ _ _ i3 s4, s2, s3⟩⟩
      | goto i => exact hp.elim
      | panic ch => exact hp.elim
      | outgrown => exact hp.elim
    case behind =>
      rintro e W2 ⟨⟨v, rfl⟩, (⟨xs, hS, hi, hr, hd⟩ | ⟨pre, hSp, c, hi, hr, hd⟩)⟩
      · have lt : w.heap.size + 1 < W2.heap.size := (Array.getElem?_eq_some_iff.1 hr).1
        have := run_endLoop (P := P) hr (by rw [hR]; simp)
        rw [hR] at this
        exact ⟨none, _, this, hdone xs _ hS (hI _ _ _ hi (putObj_below _ _ _ _ (by omega))) (by simp; omega) ((World.putObj_heap_other (by omega)).trans hd)⟩
      · have lt : w.heap.size + 1 < W2.heap.size := (Array.getElem?_eq_some_iff.1 hr).1
        have := run_endLoop (P := P) hr (by rw [hR]; simp)
        rw [hR] at this
        exact ⟨some c, _, this, hstop c pre _ hSp (hIx _ _ _ _ hi (putObj_below _ _ _ _ (by omega))) (by simp; omega) ((World.putObj_heap_other (by omega)).trans hd)⟩
end

section
set_option linter.unusedVariables false
set_option linter.unusedSimpArgs false

open Go.RowKit

/-- What below tells from place i on: the place, how many are around. -/
def trP (kid : Nat → Int) : Nat → Nat → List Nat → List (Nat × Nat)
  | 0, _, _ => []
  | f + 1, i, st => (i, st.length) :: match popF ((kid i).toNat :: st) with
    | none => []
    | some st' => trP kid f (i + 1) st'

/-- One that is told is let through, u being untold. -/
def okAt (x : Nat → It) (u : Int) (p : Nat × Nat) : Prop := itP (x p.1) ∧ p.2 ≤ 12 ∧ (x p.1).kid ≤ u

instance (x : Nat → It) (u : Int) (p : Nat × Nat) : Decidable (okAt x u p) := by unfold okAt; infer_instance

/-- What is untold behind these; none where one is refused. -/
def chk (x : Nat → It) : List (Nat × Nat) → Int → Option Int
  | [], u => some u
  | p :: r, u => if okAt x u p then chk x r (u - (x p.1).kid) else none

theorem chk_append (x : Nat → It) : ∀ (a b : List (Nat × Nat)) (u : Int), chk x (a ++ b) u = (chk x a u).bind (chk x b)
  | [], b, u => rfl
  | p :: a, b, u => by
    rw [List.cons_append, chk, chk]
    split
    · exact chk_append x a b _
    · rfl

theorem chk_one (x : Nat → It) (pre : List (Nat × Nat)) (p : Nat × Nat) (u v : Int) (h : chk x pre u = some v) : chk x (pre ++ [p]) u = if okAt x v p then some (v - (x p.1).kid) else none := by
  rw [chk_append, h]
  rfl

theorem chk_prefix (x : Nat → It) (pre t : List (Nat × Nat)) (u : Int) (hp : pre <+: t) (h : chk x pre u = none) : chk x t u = none := by
  obtain ⟨r, rfl⟩ := hp
  rw [chk_append, h]
  rfl

/-- What is untold lies between nothing and what was. -/
theorem chk_range (x : Nat → It) : ∀ (t : List (Nat × Nat)) (u v : Int), 0 ≤ u → chk x t u = some v → 0 ≤ v ∧ v ≤ u
  | [], u, v, h, e => by simp [chk] at e; omega
  | p :: t, u, v, h, e => by
    rw [chk] at e
    split at e
    · rename_i ho
      have hk := itP_kid ho.1
      have hle := ho.2.2
      have := chk_range x t _ v (by omega) e
      omega
    · cases e

theorem runP_chk (x : Nat → It) : ∀ (f i : Nat) (st : List Nat) (u : Int), runP x f i st u = match chk x (trP (fun j => (x j).kid) f i st) u with
    | none => false
    | some v => decide (v = 0)
  | 0, i, st, u => rfl
  | f + 1, i, st, u => by
    rw [runP, trP, chk]
    by_cases h : okAt x u (i, st.length)
    · have h' := h
      obtain ⟨h1, h2, h3⟩ := h'
      simp only at h1 h2 h3
      rw [if_neg (by rintro (g | g | g); exact g h1; omega; omega), if_pos h]
      cases hq : popF ((x i).kid.toNat :: st) with
      | none => rfl
      | some st' => exact runP_chk x f (i + 1) st' _
    · rw [if_neg h, if_pos]
      by_cases h1 : itP (x i)
      · by_cases h2 : st.length ≤ 12
        · by_cases h3 : (x i).kid ≤ u
          · exact absurd ⟨h1, h2, h3⟩ h
          · exact Or.inr (Or.inr (by omega))
        · exact Or.inr (Or.inl (by omega))
      · exact Or.inl h1
end

section
set_option linter.unusedVariables false
set_option linter.unusedSimpArgs false

open Go.RowKit Go.Shelf

attribute [local go_sem] Oper.semAt_some

/-- Numbers as cells. -/
def iys (L : List Int) : List Value := L.map (.int .i64)

/-- The stack that a list of numbers is, the innermost first. -/
def sOf (L : List Int) : List Nat := (L.map Int.toNat).reverse

theorem sOf_push (L : List Int) (k : Int) : sOf (L ++ [k]) = k.toNat :: sOf L := by simp [sOf]

theorem sOf_len (L : List Int) : (sOf L).length = L.length := by simp [sOf]

theorem iys_one (x : Int) : ∀ u ∈ [Value.int .i64 x], u.oneCell' = true := by
  intro u hu
  simp at hu
  subst hu
  rfl

/-- The Kids of n items in memory. -/
def KidAt (w : World) (b off n : Nat) (kid : Nat → Int) : Prop := ∀ i, i < n → w.cell? ⟨b, off + i * 3 + 2, none⟩ = some (.int .i64 (kid i))

/-- What an iterator of n items tells: a place that is one, and how many are around. -/
abbrev Pl (n : Nat) := { p : Nat × Nat // p.1 < n }

def encP {n : Nat} (p : Pl n) : Array Value := #[.int .i64 (p.1.1 : Int), .int .i64 (p.1.2 : Int)]

/-- The blocks that the iterator reads. -/
def XB (CT CL b : Nat) (k : Nat) : Prop := k = CT ∨ k = CL ∨ k = b

theorem owns_rd {X : Nat → Prop} {B : Nat} {W W' : World} (h : Rd X B W W') {e n : Nat} {v : Value} {xs : List Value} (ho : W.ownsRow B e 1 v n xs) : W'.ownsRow B e 1 v n xs := by
  refine ⟨ho.1, ?_⟩
  rcases ho.2 with h0 | ⟨g, cap, cur, rfl, hb, hg, rest⟩
  · exact .inl h0
  · exact .inr ⟨g, cap, cur, rfl, hb, (h.same g (.inl hb) (Array.getElem?_eq_some_iff.1 hg).1).trans hg, rest⟩

theorem below_append {B : Nat} {wr w1 : World} {o : Obj} {e n : Nat} {v : Value} {xs : List Value} (hb : B ≤ wr.heap.size) (ho : wr.ownsRow B e 1 v n xs) (hg : (wr.alloc o).grownBy w1 v.ownBlock) : Below B wr w1 :=
  ((Below.refl B wr).alloc hb o).grown hg (by simp; omega) (fun j hj => (ho.lt j hj).1)

/-- The list less its last. -/
theorem owns_cut {w : World} {B g cap : Nat} {L : List Int} {c : Int} (h : w.ownsRow B 3 1 (.slice (some ⟨g, 0, none⟩) (L ++ [c]).length cap) (L ++ [c]).length (iys (L ++ [c]))) : w.ownsRow B 3 1 (.slice (some ⟨g, 0, none⟩) L.length cap) L.length (iys L) := by
  rcases h.2 with ⟨h0, _⟩ | ⟨g', cap', cur, hv, hb, hg, h1, h2, h3, h4⟩
  · simp at h0
  · simp only [Value.slice.injEq, Option.some.injEq, Addr.mk.injEq] at hv
    obtain ⟨⟨rfl, -, -⟩, -, rfl⟩ := hv
    refine ⟨by simp [iys], .inr ⟨g, cap, cur, rfl, hb, hg, by simp at h1; omega, h2, h3, ?_⟩⟩
    have h5 : cur.toList.take (L.length + 1) = iys (L ++ [c]) := by simpa using h4
    have h6 : (cur.toList.take (L.length + 1)).take L.length = cur.toList.take L.length := by rw [List.take_take, Nat.min_eq_left (by omega)]
    rw [Nat.mul_one, ← h6, h5]
    simp [iys]

theorem owns_last {w : World} {B : Nat} {v : Value} {L : List Int} {c : Int} (h : w.ownsRow B 3 1 v (L ++ [c]).length (iys (L ++ [c]))) :
    ∃ g cap, v = .slice (some ⟨g, 0, none⟩) (L ++ [c]).length cap ∧ B ≤ g ∧ (L ++ [c]).length ≤ cap ∧ cap ≤ 9223372036854775807 ∧ w.cell? ⟨g, L.length, none⟩ = some (.int .i64 c) ∧ w.frozen? ⟨g, L.length, none⟩ = false := by
  have h' := h
  rcases h.2 with ⟨_, h0⟩ | ⟨g, cap, cur, rfl, hb, hg, h1, h2, h3, h4⟩
  · simp at h0
  · refine ⟨g, cap, rfl, hb, h1, by unfold maxLen at h2; omega, ?_, World.ownsRow.frozenAt h' _⟩
    rw [World.ownsRow.cellAt h' L.length (by simp)]
    simp [iys]

theorem owns_setLast {w : World} {B g cap : Nat} {L : List Int} {c : Int} (h : w.ownsRow B 3 1 (.slice (some ⟨g, 0, none⟩) (L ++ [c]).length cap) (L ++ [c]).length (iys (L ++ [c]))) (x : Int) :
    (w.setCell ⟨g, L.length, none⟩ (.int .i64 x)).ownsRow B 3 1 (.slice (some ⟨g, 0, none⟩) (L ++ [x]).length cap) (L ++ [x]).length (iys (L ++ [x])) := by
  have := (World.ownsRow.stored h L.length (.int .i64 x)).1
  rw [show (iys (L ++ [c])).set L.length (.int .i64 x) = iys (L ++ [x]) by simp [iys, List.set_append]] at this
  rw [show (L ++ [x]).length = (L ++ [c]).length by simp]
  exact this

theorem rd_below {X : Nat → Prop} {W wr w1 : World} (h : Rd X W.heap.size W wr) (k : Below W.heap.size wr w1) : Rd X W.heap.size W w1 :=
  ⟨k.os.trans h.os, k.tape.trans h.tape, k.output.trans h.output, Nat.le_trans h.size k.size, fun i hi hl => (k.block i hl).trans (h.same i hi hl)⟩

theorem owns_slice {w : World} {B n : Nat} {v : Value} {xs : List Value} (h : w.ownsRow B 3 1 v n xs) : ∃ a c, v = .slice a n c := by
  rcases h.2 with ⟨rfl, rfl⟩ | ⟨g, cap, cur, rfl, _⟩
  · exact ⟨_, _, rfl⟩
  · exact ⟨_, _, rfl⟩

theorem popF_low {L : List Int} {c : Int} (h : c ≤ 0) : popF (sOf (L ++ [c])) = popF (sOf L) := by
  rw [sOf_push, show c.toNat = 0 by omega]; rfl

theorem popF_high {L : List Int} {c : Int} (h : 0 < c) : popF (sOf (L ++ [c])) = some (sOf (L ++ [c - 1])) := by
  rw [sOf_push, sOf_push, show c.toNat = (c - 1).toNat + 1 by omega]; rfl

theorem list_last (L : List Int) : L = [] ∨ ∃ M c, L = M ++ [c] := by
  rcases List.eq_nil_or_concat L with h | ⟨M, c, h⟩
  · exact .inl h
  · exact .inr ⟨M, c, by simpa using h⟩

set_option maxHeartbeats 6400000 in
set_option maxRecDepth 100000 in
theorem below1_in (n : Nat) (hn1 : 1 ≤ n) (m top CT CL b off cap : Nat) (kid : Nat → Int) (w0 : World) (htop : top ≤ m) (hm : m ≤ 1048576) (hm0 : 0 < m) (hCT : w0.cell? ⟨CT, 0, none⟩ = some (.int .i64 (top : Int))) (hCL : w0.cell? ⟨CL, 0, none⟩ = some (.slice (some ⟨b, off, none⟩) m cap)) (hK : KidAt w0 b off m kid) (hk : ∀ i, i < m → kid i ≤ 9223372036854775807) :
    Tells (α := Pl m) n Tryd.prog 54 #[.pointer (some ⟨CT, 0, none⟩), .pointer (some ⟨CL, 0, none⟩)] encP (fun xs => xs.map (·.1) = trP kid (m - top) top []) (fun pre => pre.map (·.1) <+: trP kid (m - top) top []) m (XB CT CL b) w0 := by
  intro l J Jx W hW hJ hJx hY h0
  have lt1 : CT < w0.heap.size := World.block_lt_of_cell? _ _ hCT
  have lt2 : CL < w0.heap.size := World.block_lt_of_cell? _ _ hCL
  have lt3 : b < w0.heap.size := World.block_lt_of_cell? _ _ (hK 0 hm0)
  have a1 : ∀ o, (W.alloc o).cell? ⟨CT, 0, none⟩ = some (.int .i64 (top : Int)) := fun o => (Below.cell (hW.trans ((Below.refl _ _).alloc hW.size o)) (p := ⟨CT, 0, none⟩) lt1).trans hCT
  obtain ⟨i0, hi, hz0, hz1, hz2⟩ := info_parts Tryd.info3
  refine callsIn_of_wp Tryd.func54 rfl trivial ?_ rfl
  simp only [Tryd.ntmps54, List.size_toArray, List.length_cons, List.length_nil, Nat.reduceAdd, Nat.reduceSub, Array.replicate_succ, Array.replicate_zero, List.push_toArray, List.append_toArray, List.nil_append, List.cons_append]
  gi_wp2
  have hO0 : Hid ((W.alloc (.cells #[] 3)).ownsRow W.heap.size 3 1 (.slice (some ⟨W.heap.size, 0, none⟩) 0 0) 0 []) := World.ownsRow_made (base := W.heap.size) (e := 3) (size := 1) W #[] 0 (Nat.le_refl _) (by simp) rfl
  have HK2 : Hid (∀ wr, Rd (XB CT CL b) W.heap.size W wr → wr.cell? ⟨CL, 0, none⟩ = some (.slice (some ⟨b, off, none⟩) m cap) ∧ KidAt wr b off m kid) := by
    intro wr hr
    have hs := hW.size
    refine ⟨?_, fun i hi => ?_⟩
    · rw [World.cell?_of_block (a := ⟨CL, 0, none⟩) (hr.same CL (.inr (.inr (.inl rfl))) (by omega))]
      exact (hW.cell (p := ⟨CL, 0, none⟩) lt2).trans hCL
    · rw [World.cell?_of_block (a := ⟨b, off + i * 3 + 2, none⟩) (hr.same b (.inr (.inr (.inr rfl))) (by omega))]
      exact (hW.cell (p := ⟨b, off + i * 3 + 2, none⟩) lt3).trans (hK i hi)
  gi_loopw [4, 5] (fun v p wr => ∃ (i : Nat) (L : List Int) (pre : List (Pl m)), p = .int .i64 (i : Int) ∧ top ≤ i ∧ i ≤ m ∧ L.length ≤ i ∧ (∀ c, c ∈ L → c ≤ 9223372036854775807) ∧ pre.length ≤ i ∧ wr.ownsRow W.heap.size 3 1 v L.length (iys L) ∧ pre.map (·.1) ++ trP kid (m - i) i (sOf L) = trP kid (m - top) top [] ∧ J pre wr ∧ W.heap.size ≤ wr.heap.size ∧ Rd (XB CT CL b) W.heap.size W wr) (fun _ p _ => m - (intOf p).toNat)
  case atStart => exact ⟨top, [], [], rfl, Nat.le_refl _, htop, Nat.zero_le _, fun c hc => by simp at hc, Nat.zero_le _, hO0.out, rfl, hJ [] W _ h0 ((Below.refl _ _).alloc (Nat.le_refl _) _), by simp, rd_below (Rd.refl _ _ _) ((Below.refl _ _).alloc (Nat.le_refl _) _)⟩
  case round =>
    clear hO0 a1
    obtain ⟨i, L, pre, rfl, hti, him, hLi, hLc, hpi, hO, hT, hJp, hsz, hrd⟩ := hrel
    have HLc := hide hLc
    clear hLc
    obtain ⟨va, vc, rfl⟩ := owns_slice hO
    obtain ⟨cl, kd⟩ := HK2.out wr hrd
    have HO := hide hO
    have HT := hide hT
    have Hrd := hide hrd
    have Hpi := hide hpi
    have HLi := hide hLi
    clear hO hT hrd kd hpi hLi
    by_cases hlt : i < m
    · have hlt' : (i : Int) < (m : Int) := by omega
      obtain ⟨fn, tmps, assign, body, hy, hR⟩ := hY pre ⟨(i, L.length), hlt⟩ wr hJp hsz (by have := Hpi.out; omega)
      simp only [encP] at hy
      have HR := hide hR
      clear hR
      have HF : Hid (trP kid (m - i) i (sOf L) = (i, L.length) :: match popF ((kid i).toNat :: sOf L) with | none => [] | some st' => trP kid (m - (i + 1)) (i + 1) st') := by
        show _ = _
        rw [show m - i = (m - (i + 1)) + 1 by omega, trP, sOf_len]
        all_goals (cases popF ((kid i).toNat :: sOf L) <;> rfl)
      gi_wp2
      refine HR.out.mono ?_
      rintro e W3 (⟨rfl, hJ3, hk3⟩ | ⟨rfl, hJx3⟩)
      · have HO3 := hide (owns_rd hk3 HO.out)
        have Hrd3 := hide (Hrd.out.trans hk3)
        obtain ⟨cl3, kd3⟩ := HK2.out W3 Hrd3.out
        have kc3 := kd3 i hlt
        have HJ3 := hide hJ3
        have hsz3 : W.heap.size ≤ W3.heap.size := Nat.le_trans hsz hk3.size
        have Hki := hide (hk i hlt)
        clear hJ3 hk3 kd3 HO Hrd cl hy HR
        have hLL : L.length ≤ 1048576 := by have := HLi.out; omega
        have HP : Hid (popF ((kid i).toNat :: sOf L) = popF (sOf (L ++ [kid i]))) := by show _ = _; rw [sOf_push]
        generalize hkk : kid i = kk at *
        clear hkk
        gi_wp2_with (gi_at_builtin; refine wpListIn_append_own _ rfl _ _ 36 rfl W.heap.size 3 i0 (.int .i64 0) 1 8 Tryd.underlying36 hi hz0 hz1 hz2 rfl (by decide) _ _ _ rfl (HO3.out.alloc _) ⟨W3.heap.size, 0, none⟩ 1 1 [.int .i64 kk] rfl rfl (cell_one_new _ _ _) (iys_one _) (by unfold maxLen; omega) (by omega) (by simp; omega) ?_; intro v' w4 hown' hgrow hnil)
        have HB4 := hide (below_append hsz3 HO3.out hgrow)
        have HO4 : Hid (w4.ownsRow W.heap.size 3 1 v' (L ++ [kk]).length (iys (L ++ [kk]))) := by
          show World.ownsRow _ _ _ _ _ _ _
          simpa [iys] using hown'
        have hsz4 : W.heap.size ≤ w4.heap.size := Nat.le_trans hsz3 HB4.out.size
        have HJ4 := hide (hJ _ W3 w4 HJ3.out HB4.out)
        have Hrd4 := hide (rd_below Hrd3.out HB4.out)
        clear hown' hgrow hnil HO3 Hrd3 HJ3 cl3 kc3
        gi_loopw [4] (fun v wq => wq = w4 ∧ ∃ M : List Int, M.length ≤ L.length + 1 ∧ popF (sOf M) = popF ((kk).toNat :: sOf L) ∧ w4.ownsRow W.heap.size 3 1 v M.length (iys M) ∧ (∀ c, c ∈ M → c ∈ L ∨ c = kk)) (fun v _ => match v with | .slice _ k _ => k | _ => 0)
        case atStart => exact ⟨rfl, L ++ [kk], by simp, HP.out.symm, HO4.out, fun c hc => by simpa using hc⟩
        case round =>
          clear HO4 HP
          obtain ⟨rfl, M, hM1, hM2, hMO, hM3⟩ := hrel
          have HM2 := hide hM2
          have HM3 := hide hM3
          clear hM2 hM3
          rcases list_last M with rfl | ⟨M', c, rfl⟩
          · obtain ⟨ma, mc, rfl⟩ := owns_slice hMO
            clear hMO
            gi_wp2
            refine bodyPost_ret (results_none rfl _ _ _) rfl ?_
            refine ⟨⟨_, rfl⟩, .inl ⟨pre ++ [⟨(i, L.length), hlt⟩], ?_, HJ4.out⟩⟩
            rw [← HT.out, HF.out, ← HM2.out, List.map_append]
            rfl
          · obtain ⟨g, gc, rfl, hgB, hgc, hgc2, cc, cf⟩ := owns_last hMO
            have HMO := hide hMO
            have hlen : (M' ++ [c]).length = M'.length + 1 := by simp
            rw [hlen] at hgc hM1
            have hp1 : (0 : Int) < (M'.length : Int) + 1 := by omega
            have hq1 : (0 : Int) ≤ (M'.length : Int) + 1 - 1 := by omega
            have HgB := hide hgB
            clear hMO hgB
            by_cases hc : c ≤ 0
            · rw [hlen]
              have HMO2 := hide (owns_cut HMO.out)
              have HM5 : Hid (popF (sOf M') = popF (kk.toNat :: sOf L)) := by show _ = _; rw [← HM2.out, popF_low hc]
              gi_wp2
              go_roundw
              case rel => exact ⟨by trivial, M', by omega, HM5.out, HMO2.out, fun c' h => HM3.out c' (by simp [h])⟩
              case measure => simp
            · have hc1 : 0 < c := by omega
              have hcb : c ≤ 9223372036854775807 := by
                rcases HM3.out c (by simp) with h | h
                · exact HLc.out c h
                · rw [h]; exact Hki.out
              have hz : ((M'.length : Int) + 1 == 0) = false := by simp; omega
              have HO6 := hide (owns_setLast HMO.out (c - 1))
              have HB6 : Hid (Below W.heap.size wr (wr.setCell ⟨g, M'.length, none⟩ (.int .i64 (c - 1)))) := below_touch (Below.refl _ _) ((Touch.refl g wr).set M'.length _) HgB.out
              rw [hlen]
              gi_wp2
              go_roundw
              case rel =>
                refine ⟨i + 1, M' ++ [c - 1], pre ++ [⟨(i, L.length), hlt⟩], by go_num, by omega, by omega, by have := HLi.out; simp; omega, fun c' h => ?_, by have := Hpi.out; simp; omega, ?_, ?_, hJ _ wr _ HJ4.out HB6.out, Nat.le_trans hsz4 HB6.out.size, rd_below Hrd4.out HB6.out⟩
                · rcases List.mem_append.1 h with h | h
                  · rcases HM3.out c' (by simp [h]) with h' | h'
                    · exact HLc.out c' h'
                    · rw [h']; exact Hki.out
                  · simp at h; omega
                · have := HO6.out
                  rw [show (M' ++ [c - 1]).length = M'.length + 1 by simp] at this ⊢
                  exact this
                · rw [← HT.out, HF.out, ← HM2.out, popF_high hc1, List.map_append, List.append_assoc]
                  rfl
              case measure => simp [intOf]; omega
      · gi_wp2
        go_end0
        refine ⟨⟨_, rfl⟩, .inr ⟨pre ++ [⟨(i, L.length), hlt⟩], ?_, hJx3⟩⟩
        rw [← HT.out, HF.out, List.map_append]
        exact ⟨_, by rw [List.append_assoc]; rfl⟩
    · obtain rfl : i = m := by omega
      gi_wp2
      refine ⟨fun _ h => (by cases h), ?_⟩
      gi_wp2
      go_end0
      refine ⟨⟨_, rfl⟩, .inl ⟨pre, ?_, hJp⟩⟩
      have h := HT.out
      rw [Nat.sub_self, trP, List.append_nil] at h
      exact h

theorem below_any (a : Option Addr) (n cap : Nat) (top : Int) (w : World) :
    Calls Tryd.prog 31 #[.slice a n cap, .int .i64 top] w fun e w' => e = .returned (.func (.func 54) #[] #[.pointer (some ⟨w.heap.size + 1, 0, none⟩), .pointer (some ⟨w.heap.size, 0, none⟩)]) ∧ w' = (w.alloc (.cells #[.slice a n cap] 23)).alloc (.cells #[.int .i64 top] 3) := by
  go_enter Tryd.func31, Tryd.ntmps31
  go_wp2
  go_ret
  exact ⟨rfl, rfl⟩
end

end Go.Proofs.YtmcdikbcmikihaaDoor
