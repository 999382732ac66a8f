/- Walks: lists of items copied (the laws' own helpers). Walks: the model's TreeOk: l7End. Numbers: a tree told by a stack of what is still to come, and by places behind its parts. Nothing of the program. Walk: the model's l1In: whether a number lies between two. Walks: the model's TreeOk. Written by mktrt.py. -/
import Derived.Test.YtgdjaapjdmancaaGreatDoorCy02
import Derived.Test.YtgdjaapjdmancaaGreatDoorChecked
import Derived.Test.YtgdjaapjdmancaaGreatDoorCy01
namespace Go.Proofs.YtgdjaapjdmancaaGreatDoor

section
set_option linter.unusedVariables false
set_option linter.unusedSimpArgs false

open Go.RowKit

/-- The item with its bytes in block B. -/
def It.at (x : It) (B : Nat) : It := { x with ad := some ⟨B, 0, none⟩, blk := B, off := 0, cap := x.len }

/-- The cells of an item, of an empty one. -/
def itC (x : It) : Nat → Value
  | 0 => .int .i64 x.tag
  | 1 => .slice x.ad x.len x.cap
  | _ => .int .i64 x.kid

def zeC : Nat → Value
  | 0 => .int .i64 0
  | 1 => .slice none 0 0
  | _ => .int .i64 0

/-- The row of a list of items of which the first k are there. -/
def rowC (y : Nat → It) (k j : Nat) : Value := if j / 3 < k then itC (y (j / 3)) (j % 3) else zeC (j % 3)

theorem rowC_at {y : Nat → It} {k i : Nat} (h : i < k) (r : Nat) (hr : r < 3) : rowC y k (i * 3 + r) = itC (y i) r := by
  unfold rowC
  rw [show (i * 3 + r) / 3 = i by omega, show (i * 3 + r) % 3 = r by omega, if_pos h]

/-- Items with their bytes in blocks laid one behind the other. -/
def laidI (x : Nat → It) (S : Nat) (i : Nat) : It := (x i).at (S + 4 + 4 * i)

structure ICopying (w wr : World) (n k : Nat) (x : Nat → It) : Prop where
  below : Below w.heap.size w wr
  size : wr.heap.size = w.heap.size + 1 + 4 * k
  row : wr.rowIs w.heap.size 60 (n * 3) (rowC (laidI x w.heap.size) k)
  body : ∀ i, i < k → wr.rowIs (w.heap.size + 4 + 4 * i) 5 (x i).len (fun j => .int .u8 ((x i).f j))

/-- What has been copied is a list of items. -/
theorem ICopying.seg {w w' : World} {n : Nat} {x : Nat → It} (h : ICopying w w' n n x) (hl : ∀ i, i < n → (x i).len ≤ 9223372036854775807) : ISeg w' (some ⟨w.heap.size, 0, none⟩) w.heap.size 0 n (laidI x w.heap.size) := by
  refine ⟨fun _ => rfl, fun i hi => ?_, fun i hi => ?_, fun i hi => ?_, fun i hi => ?_, fun i hi => hl i hi⟩
  · rw [Nat.zero_add]; exact (h.row.cell (i := i * 3) (by omega)).trans (congrArg some (rowC_at (r := 0) hi (by omega)))
  · rw [Nat.zero_add]; exact (h.row.cell (by omega)).trans (congrArg some (rowC_at hi 1 (by omega)))
  · rw [Nat.zero_add]; exact (h.row.cell (by omega)).trans (congrArg some (rowC_at hi 2 (by omega)))
  · exact BSeg.of_row (h.body i hi) (Nat.le_refl _)
end

section
set_option linter.unusedVariables false
set_option linter.unusedSimpArgs false

open Go.RowKit

/-- k trees, one behind the other; f tells the place behind one, or -1. -/
def kidsF (f : Nat → Int) : Nat → Int → Int
  | 0, s => s
  | k + 1, s => if kidsF f k s < 0 then -1 else f (kidsF f k s).toNat

/-- The place behind the tree at i, where m more may be around; -1 where it is none. -/
def endF (kid : Nat → Int) (n : Nat) : Nat → Nat → Int
  | 0, _ => -1
  | m + 1, i => if n ≤ i then -1 else kidsF (endF kid n m) (kid i).toNat (i + 1)

theorem kidsF_range {f : Nat → Int} {n : Nat} (hf : ∀ i, -1 ≤ f i ∧ f i ≤ n) {s : Int} (s0 : -1 ≤ s) (s1 : s ≤ n) (k : Nat) : -1 ≤ kidsF f k s ∧ kidsF f k s ≤ n := by
  induction k with
  | zero => exact ⟨s0, s1⟩
  | succ k ih => unfold kidsF; split
                 · omega
                 · exact hf _

theorem kidsF_neg {f : Nat → Int} {s : Int} {k : Nat} (h : kidsF f k s < 0) (n : Nat) (hk : k < n) : kidsF f n s = -1 := by
  induction n with
  | zero => omega
  | succ n ih => by_cases e : k = n
                 · subst e; unfold kidsF; rw [if_pos h]
                 · unfold kidsF; rw [if_pos (by rw [ih (by omega)]; omega)]

theorem endF_range (kid : Nat → Int) (n : Nat) : ∀ (m i : Nat), -1 ≤ endF kid n m i ∧ endF kid n m i ≤ n
  | 0, i => by unfold endF; omega
  | m + 1, i => by
    unfold endF
    split
    · omega
    · exact kidsF_range (endF_range kid n m) (by omega) (by omega) _

set_option maxHeartbeats 1600000 in
theorem l7End_any (a : Option Addr) (b off n cap : Nat) (x : Nat → It) (w : World) (hs : ISeg w a b off n x) (hn : n ≤ 1048576) (hkid : ∀ i, i < n → 0 ≤ (x i).kid ∧ (x i).kid ≤ 1048576) :
    ∀ (m i d : Nat) (W : World), d + m = 12 + 1 → i ≤ n → Ext w W →
    Calls Tryz.prog 63 #[.slice a n cap, .int .i64 i, .int .i64 d] W fun e w' => e = .returned (.int .i64 (endF (fun j => (x j).kid) n m i)) ∧ Ext W w'
  | 0, i, d, W, hd, hi, hE => by
    have hd' : (d : Int) = 12 + 1 := by omega
    show Calls Tryz.prog 63 #[.slice a n cap, .int .i64 i, .int .i64 d] W fun e w' => e = .returned (.int .i64 (-1)) ∧ Ext W w'
    rw [hd']
    by_cases h : (n : Int) ≤ i
    · go_enter Tryz.func63, Tryz.ntmps63
      go_wp2
      go_ret
      exact ⟨rfl, Ext.refl _⟩
    · go_enter Tryz.func63, Tryz.ntmps63
      go_wp2
      go_ret
      exact ⟨rfl, Ext.refl _⟩
  | m + 1, i, d, W, hd, hi, hE => by
    by_cases h : n ≤ i
    · have h' : (n : Int) ≤ i := by omega
      have e1 : endF (fun j => (x j).kid) n (m + 1) i = -1 := by unfold endF; rw [if_pos h]
      rw [e1]
      go_enter Tryz.func63, Tryz.ntmps63
      go_wp2
      go_ret
      exact ⟨rfl, Ext.refl _⟩
    · have h' : ¬ (n : Int) ≤ i := by omega
      have hd' : ¬ (12 : Int) < d := by omega
      have e1 : endF (fun j => (x j).kid) n (m + 1) i = kidsF (endF (fun j => (x j).kid) n m) (x i).kid.toNat (i + 1) := by rw [endF]; rw [if_neg h]
      rw [e1]
      have IH := hide (fun (i : Nat) (W : World) (hi : i ≤ n) (hE : Ext w W) => l7End_any a b off n cap x w hs hn hkid m i (d + 1) W (by omega) hi hE)
      have hr := endF_range (fun j => (x j).kid) n m
      obtain ⟨f, hf⟩ : ∃ f, endF (fun j => (x j).kid) n m = f := ⟨_, rfl⟩
      rw [hf] at IH hr ⊢
      clear hf e1
      have hr2 := hide (fun k => kidsF_range (n := n) hr (s := (i : Int) + 1) (by omega) (by omega) k)
      have HR := hide hr
      obtain rfl := hs.at' (by omega)
      obtain ⟨hk0, hk1⟩ := hkid i (by omega)
      have HS := hide hs
      have HE := hide hE
      have HK := hide hkid
      obtain ⟨K, hK⟩ : ∃ K : Nat, (x i).kid = K := ⟨(x i).kid.toNat, by omega⟩
      have c2 := (hs.of_all hE).c2 i (by omega)
      rw [hK] at hk0 hk1 c2 ⊢
      rw [Int.toNat_natCast]
      clear hs hE hkid hr
      go_enter Tryz.func63, Tryz.ntmps63
      go_wp2
      clear c2
      go_loopw [7, 8] (fun c j wr => ∃ k : Nat, k ≤ K ∧ j = .int .i64 k ∧ 0 ≤ kidsF f k (i + 1) ∧ c = .int .i64 (kidsF f k (i + 1)) ∧ Ext W wr) (fun _ j _ => K - (intOf j).toNat)
      case atStart => exact ⟨0, Nat.zero_le _, rfl, by show (0 : Int) ≤ i + 1; omega, rfl, Ext.refl _⟩
      case round =>
        obtain ⟨k, hk, rfl, hz0, rfl, hE1⟩ := hrel
        have hz1 := (hr2.out k).2
        obtain ⟨z, hz⟩ : ∃ z : Nat, kidsF f k (i + 1) = z := ⟨(kidsF f k (i + 1)).toNat, by omega⟩
        rw [hz] at hz0 hz1 ⊢
        have c2 := (HS.out.of_all (HE.out.trans hE1)).c2 i (by omega)
        rw [hK] at c2
        have HE1 := hide hE1
        clear hE1
        by_cases hlt : k < K
        · have hlt' : (k : Int) < (K : Int) := by omega
          have hfz := HR.out z
          have hnx : kidsF f (k + 1) (i + 1) = f z := by
            show (if kidsF f k (i + 1) < 0 then -1 else f (kidsF f k (i + 1)).toNat) = f z
            rw [hz, if_neg (by omega), Int.toNat_natCast]
          have HC := hide (IH.out z wr (by omega) (HE.out.trans HE1.out))
          rw [show (((d + 1 : Nat)) : Int) = (d : Int) + 1 by omega] at HC
          obtain ⟨y, hy⟩ : ∃ y, f z = y := ⟨_, rfl⟩
          rw [hy] at HC hfz hnx
          have Hz := hide hz
          have Hy := hide hnx
          clear hy hz hnx
          go_wp2_with fail
          refine HC.out.mono ?_
          rintro e W2 ⟨rfl, hE2⟩
          have HE2 := hide hE2
          clear hE2
          by_cases hneg : y < 0
          · go_wp2
            go_ret
            have e1 : kidsF f K (i + 1) = -1 := by
              by_cases hkn1 : k + 1 = K
              · have := Hy.out; rw [hkn1] at this; rw [this]; omega
              · exact kidsF_neg (k := k + 1) (by rw [Hy.out]; exact hneg) K (by omega)
            exact ⟨by rw [e1]; rfl, HE1.out.trans HE2.out⟩
          · go_wp2
            go_roundw
            case rel => exact ⟨k + 1, by omega, by go_num, by rw [Hy.out]; omega, by rw [Hy.out], HE1.out.trans HE2.out⟩
            case measure => simp [intOf]; omega
        · obtain rfl : k = K := by omega
          go_wp2
          go_ret
          exact ⟨by rw [hz]; rfl, HE1.out⟩
end

section
set_option linter.unusedVariables false
set_option linter.unusedSimpArgs false

open Go.RowKit

theorem kidsF_minus (f : Nat → Int) (k : Nat) : kidsF f k (-1) = -1 := by
  induction k with
  | zero => rfl
  | succ k ih => unfold kidsF; rw [ih]; rfl

/-- The first of k + 1 trees ahead. -/
theorem kidsF_front (f : Nat → Int) (hf : ∀ i, -1 ≤ f i) (s : Nat) (k : Nat) : kidsF f (k + 1) s = kidsF f k (f s) := by
  induction k with
  | zero => simp [kidsF]; omega
  | succ k ih =>
    rw [kidsF, ih]
    conv => rhs; rw [kidsF]

/-- What comes of place r, where st is still to come of each item around, the innermost first. -/
def contF (kid : Nat → Int) (n : Nat) : List Nat → Int → Int
  | [], r => r
  | c :: st, r => contF kid n st (kidsF (endF kid n (12 - st.length)) c r)

theorem contF_minus (kid : Nat → Int) (n : Nat) : ∀ st, contF kid n st (-1) = -1
  | [] => rfl
  | c :: st => by unfold contF; rw [kidsF_minus, contF_minus kid n st]

/-- The stack behind an item: what is done is taken away, of the next one is taken. -/
def popF : List Nat → Option (List Nat)
  | [] => none
  | 0 :: st => popF st
  | (c + 1) :: st => some (c :: st)

theorem contF_pop (kid : Nat → Int) (n : Nat) (r : Nat) : ∀ st : List Nat, contF kid n st r = match popF st with
    | none => (r : Int)
    | some st' => contF kid n st' (endF kid n (13 - st'.length) r)
  | [] => rfl
  | 0 :: st => by
    show contF kid n st (kidsF _ 0 r) = _
    rw [show kidsF (endF kid n (12 - st.length)) 0 r = r from rfl, contF_pop kid n r st]
    rfl
  | (c + 1) :: st => by
    show contF kid n st (kidsF _ (c + 1) r) = contF kid n st (kidsF _ c _)
    rw [kidsF_front _ (fun i => (endF_range kid n _ i).1)]
    simp only [List.length_cons]
    rw [show 13 - (st.length + 1) = 12 - st.length by omega]

/-- A step of the walk. -/
theorem contF_step (kid : Nat → Int) (n i : Nat) (st : List Nat) (hi : i < n) (hd : st.length ≤ 12) :
    contF kid n st (endF kid n (13 - st.length) i) = contF kid n ((kid i).toNat :: st) ((i + 1 : Nat) : Int) := by
  show _ = contF kid n st (kidsF _ _ _)
  rw [show 13 - st.length = (12 - st.length) + 1 by omega]
  conv => lhs; rw [endF]
  rw [if_neg (by omega)]
  rfl

theorem contF_deep (kid : Nat → Int) (n i : Nat) (st : List Nat) (h : n ≤ i ∨ 12 < st.length) : contF kid n st (endF kid n (13 - st.length) i) = -1 := by
  have : endF kid n (13 - st.length) i = -1 := by
    by_cases h2 : 12 < st.length
    · rw [show 13 - st.length = 0 by omega]; rfl
    · rw [show 13 - st.length = (12 - st.length) + 1 by omega, endF, if_pos (by omega)]
  rw [this, contF_minus]

theorem kidsF_far (f : Nat → Int) (hf : ∀ i, 0 ≤ f i → (i : Int) + 1 ≤ f i) (s : Int) (k : Nat) (h : 0 ≤ kidsF f k s) : s + k ≤ kidsF f k s := by
  induction k with
  | zero => simp [kidsF]
  | succ k ih =>
    rw [kidsF] at h ⊢
    split at h
    · omega
    · rename_i h1
      rw [if_neg h1]
      have := hf _ h
      have := ih (by omega)
      omega

theorem endF_far (kid : Nat → Int) (n : Nat) : ∀ (m i : Nat), 0 ≤ endF kid n m i → (i : Int) + 1 ≤ endF kid n m i
  | 0, i, h => by rw [endF] at h; omega
  | m + 1, i, h => by
    rw [endF] at h ⊢
    split at h
    · omega
    · rename_i h1
      rw [if_neg h1]
      have := kidsF_far _ (endF_far kid n m) _ _ h
      omega

theorem contF_far (kid : Nat → Int) (n : Nat) : ∀ (st : List Nat) (r : Int), -1 ≤ r → r ≤ n → 0 ≤ contF kid n st r → r + (st.sum : Nat) ≤ contF kid n st r
  | [], r, _, _, h => by simp [contF]
  | c :: st, r, r0, r1, h => by
    rw [contF] at h ⊢
    obtain ⟨k0, k1⟩ := kidsF_range (endF_range kid n (12 - st.length)) r0 r1 c
    have h1 := contF_far kid n st _ k0 k1 h
    by_cases hk : 0 ≤ kidsF (endF kid n (12 - st.length)) c r
    · have := kidsF_far _ (endF_far kid n _) _ _ hk
      simp only [List.sum_cons]
      omega
    · exfalso
      have e : kidsF (endF kid n (12 - st.length)) c r = -1 := by omega
      rw [e, contF_minus] at h
      omega

theorem popF_sum : ∀ (st st' : List Nat), popF st = some st' → st'.sum + 1 = st.sum
  | [], st', h => by simp [popF] at h
  | 0 :: st, st', h => by have := popF_sum st st' h; simpa using this
  | (c + 1) :: st, st', h => by
    simp [popF] at h
    subst h
    simp; omega

theorem popF_none : ∀ (st : List Nat), popF st = none → st.sum = 0
  | [], _ => rfl
  | 0 :: st, h => by have := popF_none st h; simpa using this
  | (c + 1) :: st, h => by simp [popF] at h

/-- An item is well. -/
def itGood (x : It) : Prop := 0 ≤ x.tag ∧ x.tag ≤ 255 ∧ x.tag % 32 ≠ 31 ∧ 0 ≤ x.kid ∧ x.kid ≤ 300 ∧ (x.tag / 32 % 2 = 1 → x.len = 0) ∧ (x.tag / 32 % 2 ≠ 1 → x.kid = 0)

instance (x : It) : Decidable (itGood x) := by unfold itGood; infer_instance

/-- A list of items is one tree. -/
def treeV (x : Nat → It) (n : Nat) : Bool := decide (1 ≤ n ∧ n ≤ 300 ∧ (∀ i, i < n → itGood (x i)) ∧ endF (fun j => (x j).kid) n 13 0 = n)

/-- What the program asks of an item. -/
def itP (x : It) : Prop := 0 ≤ x.tag ∧ x.tag ≤ 255 ∧ x.tag % 32 ≠ 31 ∧ (x.tag / 32 % 2 = 1 → 0 ≤ x.kid ∧ x.len = 0) ∧ (x.tag / 32 % 2 ≠ 1 → x.kid = 0)

instance (x : It) : Decidable (itP x) := by unfold itP; infer_instance

theorem itP_of {x : It} (h : itGood x) : itP x := by
  obtain ⟨h1, h2, h3, h4, h5, h6, h7⟩ := h
  exact ⟨h1, h2, h3, fun m => ⟨h4, h6 m⟩, h7⟩

theorem itGood_of {x : It} (h : itP x) (h5 : x.kid ≤ 300) : itGood x := by
  obtain ⟨h1, h2, h3, h4, h7⟩ := h
  exact ⟨h1, h2, h3, by by_cases m : x.tag / 32 % 2 = 1
                        · exact (h4 m).1
                        · rw [h7 m]; omega, h5, fun m => (h4 m).2, h7⟩

theorem itP_kid {x : It} (h : itP x) : 0 ≤ x.kid := by
  obtain ⟨h1, h2, h3, h4, h7⟩ := h
  by_cases m : x.tag / 32 % 2 = 1
  · exact (h4 m).1
  · rw [h7 m]; omega

/-- The program's walk: from place i on, with st still to come of each item around and u untold. -/
def runP (x : Nat → It) : Nat → Nat → List Nat → Int → Bool
  | 0, _, _, u => decide (u = 0)
  | f + 1, i, st, u => if ¬ itP (x i) ∨ 12 < st.length ∨ u < (x i).kid then false else
    match popF ((x i).kid.toNat :: st) with
    | none => decide (u - (x i).kid = 0)
    | some st' => runP x f (i + 1) st' (u - (x i).kid)

theorem runP_tree (x : Nat → It) (n : Nat) (hn : n ≤ 300) : ∀ (f i : Nat) (st : List Nat) (u : Int), i + f = n → 0 ≤ u → u + (st.sum : Nat) + i + 1 = n → (∀ j, j < i → itGood (x j)) →
    runP x f i st u = decide ((∀ j, j < n → itGood (x j)) ∧ contF (fun j => (x j).kid) n st (endF (fun j => (x j).kid) n (13 - st.length) i) = n)
  | 0, i, st, u, h1, h2, h3, h4 => by omega
  | f + 1, i, st, u, h1, h2, h3, h4 => by
    rw [runP]
    by_cases hb : ¬ itP (x i) ∨ 12 < st.length ∨ u < (x i).kid
    · rw [if_pos hb]
      symm
      refine decide_eq_false (fun ⟨g, e⟩ => ?_)
      rcases hb with hb | hb | hb
      · exact hb (itP_of (g i (by omega)))
      · rw [contF_deep _ _ _ _ (Or.inr hb)] at e; omega
      · by_cases hd : st.length ≤ 12
        · rw [contF_step _ _ _ _ (by omega) hd] at e
          have hk := itP_kid (itP_of (g i (by omega)))
          have := contF_far (fun j => (x j).kid) n ((x i).kid.toNat :: st) ((i + 1 : Nat) : Int) (by omega) (by omega) (by rw [e]; omega)
          rw [e] at this
          simp only [List.sum_cons] at this
          omega
        · rw [contF_deep _ _ _ _ (Or.inr (by omega))] at e; omega
    · rw [if_neg hb]
      have hp : itP (x i) := by
        by_cases h : itP (x i)
        · exact h
        · exact absurd (Or.inl h) hb
      have hd : st.length ≤ 12 := by
        by_cases h : st.length ≤ 12
        · exact h
        · exact absurd (Or.inr (Or.inl (by omega))) hb
      have hu : (x i).kid ≤ u := by
        by_cases h : (x i).kid ≤ u
        · exact h
        · exact absurd (Or.inr (Or.inr (by omega))) hb
      have hk := itP_kid hp
      have hg : ∀ j, j < i + 1 → itGood (x j) := fun j hj => by
        by_cases e : j = i
        · subst e; exact itGood_of hp (by omega)
        · exact h4 j (by omega)
      rw [contF_step _ _ _ _ (by omega) hd, contF_pop]
      cases hq : popF ((x i).kid.toNat :: st) with
      | none =>
        have := popF_none _ hq
        simp only [List.sum_cons] at this
        simp only
        rw [decide_eq_decide]
        constructor
        · intro h
          exact ⟨fun j hj => hg j (by omega), by omega⟩
        · rintro ⟨_, h⟩
          omega
      | some st' =>
        have := popF_sum _ _ hq
        simp only [List.sum_cons] at this
        simp only
        exact runP_tree x n hn f (i + 1) st' _ (by omega) (by omega) (by omega) hg

/-- The program's answer is the model's. -/
theorem runP_treeV (x : Nat → It) (n : Nat) (h1 : 1 ≤ n) (hn : n ≤ 300) : runP x n 0 [] ((n : Int) - 1) = treeV x n := by
  rw [runP_tree x n hn n 0 [] _ (by omega) (by omega) (by simp) (fun j hj => absurd hj (Nat.not_lt_zero _))]
  unfold treeV
  rw [decide_eq_decide]
  exact ⟨fun h => ⟨h1, hn, h.1, h.2⟩, fun h => ⟨h.2.2.1, h.2.2.2⟩⟩
end

section
set_option linter.unusedVariables false

open Go.RowKit

theorem l1In_int (x a b : Int) (w : World) : Calls Tryz.prog 35 #[.int .i64 x, .int .i64 a, .int .i64 b] w fun e w' => e = .returned (.bool (decide (a ≤ x) && decide (x ≤ b))) ∧ w' = w := by
  by_cases h1 : a ≤ x
  · by_cases h2 : x ≤ b
    · go_enter Tryz.func35, Tryz.ntmps35
      go_wp2
      go_ret
      exact ⟨ret_bool (by rw [decide_eq_true (by omega : a ≤ x), decide_eq_true (by omega : x ≤ b)]; rfl), rfl⟩
    · go_enter Tryz.func35, Tryz.ntmps35
      go_wp2
      go_ret
      exact ⟨ret_bool (by simp; omega), rfl⟩
  · go_enter Tryz.func35, Tryz.ntmps35
    go_wp2
    go_ret
    exact ⟨ret_bool (by rw [decide_eq_false (by omega : ¬ a ≤ x)]; rfl), rfl⟩
end

section
set_option linter.unusedVariables false
set_option linter.unusedSimpArgs false

open Go.RowKit

theorem l7Made_any (t : Int) (w : World) (t0 : 0 ≤ t) (t1 : t ≤ 255) : Calls Tryz.prog 62 #[.int .i64 t] w fun e w' => e = .returned (.bool (decide (t / 32 % 2 = 1))) ∧ w' = w := by
  have e1 : t.tdiv 32 = t / 32 := Int.tdiv_eq_ediv_of_nonneg t0
  have e2 : (t / 32).tmod 2 = t / 32 % 2 := Int.tmod_eq_emod_of_nonneg (by omega)
  go_enter Tryz.func62, Tryz.ntmps62
  go_wp2
  go_ret
  exact ⟨ret_bool (by first | rfl | (rw [Bool.eq_iff_iff]; simp)), rfl⟩

set_option maxHeartbeats 0 in
theorem specTree_any (a : Option Addr) (b off n cap : Nat) (x : Nat → It) (w : World) (hs : ISeg w a b off n x) (hn : n ≤ 1048576) :
    Calls Tryz.prog 38 #[.slice a n cap] w fun e w' => e = .returned (.bool (treeV x n)) ∧ Ext w w' := by
  obtain ⟨F, hF⟩ : ∃ F, treeV x n = F := ⟨_, rfl⟩
  rw [hF]
  have HF := hide hF
  clear hF
  by_cases hin : 1 ≤ n ∧ n ≤ 300
  · have HN : Hid (∀ W : World, Calls Tryz.prog 35 #[.int .i64 n, .int .i64 1, .int .i64 300] W fun e w' => e = .returned (.bool true) ∧ w' = W) := hide (fun W => by
      have := l1In_int n 1 300 W
      rwa [show (decide ((1 : Int) ≤ n) && decide ((n : Int) ≤ 300)) = true by simp; omega] at this)
    go_enter Tryz.func38, Tryz.ntmps38
    go_wp2_with fail
    refine (HN.out _).mono ?_
    rintro e w1 ⟨rfl, hw1⟩
    subst hw1
    go_wp2
    go_loopw [3] (fun i wr => ∃ k : Nat, k ≤ n ∧ i = .int .i64 k ∧ (∀ j, j < k → itGood (x j)) ∧ Ext w1 wr) (fun i _ => n - (intOf i).toNat)
    case atStart => exact ⟨0, Nat.zero_le _, rfl, fun j hj => absurd hj (Nat.not_lt_zero _), Ext.refl _⟩
    case round =>
      obtain ⟨k, hk, rfl, hd, hE⟩ := hrel
      have HD := hide hd
      clear hd
      by_cases hlt : k < n
      · obtain rfl := hs.at' (by omega)
        have hs' := hs.of_all hE
        have c0 := hs'.c0 k hlt
        have c1 := hs'.c1 k hlt
        have c2 := hs'.c2 k hlt
        have hsm := hs.small k hlt
        have HE := hide hE
        have HS := hide hs
        clear hs hs' hE
        have hkn : (k : Int) < (n : Int) := by omega
        have HBad : Hid (¬ itGood (x k) → F = false) := hide (fun h => by rw [← HF.out]; exact decide_eq_false (fun g => h (g.2.2.1 k hlt)))
        obtain ⟨t, ht⟩ : ∃ t, (x k).tag = t := ⟨_, rfl⟩
        obtain ⟨c, hc⟩ : ∃ c, (x k).kid = c := ⟨_, rfl⟩
        obtain ⟨q, hq⟩ : ∃ q, (x k).len = q := ⟨_, rfl⟩
        have HG : Hid (itGood (x k) ↔ (0 ≤ t ∧ t ≤ 255 ∧ t % 32 ≠ 31 ∧ 0 ≤ c ∧ c ≤ 300 ∧ (t / 32 % 2 = 1 → q = 0) ∧ (t / 32 % 2 ≠ 1 → c = 0))) := hide (by unfold itGood; rw [ht, hc, hq])
        rw [ht] at c0
        rw [hq] at c1 hsm
        rw [hc] at c2
        clear ht hc hq
        have HT : Hid (∀ W : World, Calls Tryz.prog 35 #[.int .i64 t, .int .i64 0, .int .i64 255] W fun e w' => e = .returned (.bool (decide (0 ≤ t) && decide (t ≤ 255))) ∧ w' = W) := hide (fun W => l1In_int t 0 255 W)
        have HK : Hid (∀ W : World, Calls Tryz.prog 35 #[.int .i64 c, .int .i64 0, .int .i64 300] W fun e w' => e = .returned (.bool (decide (0 ≤ c) && decide (c ≤ 300))) ∧ w' = W) := hide (fun W => l1In_int c 0 300 W)
        by_cases hA : 0 ≤ t ∧ t ≤ 255
        · rw [show (decide (0 ≤ t) && decide (t ≤ 255)) = true by simp; omega] at HT
          have em : t.tmod 32 = t % 32 := Int.tmod_eq_emod_of_nonneg (by omega)
          by_cases hB : t % 32 = 31
          · have hB' : (t % 32 == 31) = true := by simp [hB]
            go_wp2_with fail
            refine (HT.out _).mono ?_
            rintro e w1 ⟨rfl, hw1⟩
            subst hw1
            go_wp2
            go_ret
            exact ⟨ret_bool (HBad.out (fun g => by have := HG.out.1 g; omega)).symm, HE.out.trans (Ext.alloc _ _)⟩
          · have hB' : (t % 32 == 31) = false := by simp [hB]
            by_cases hC : 0 ≤ c ∧ c ≤ 300
            · rw [show (decide (0 ≤ c) && decide (c ≤ 300)) = true by simp; omega] at HK
              have HMd : Hid (∀ W : World, Calls Tryz.prog 62 #[.int .i64 t] W fun e w' => e = .returned (.bool (decide (t / 32 % 2 = 1))) ∧ w' = W) := hide (fun W => l7Made_any t W (by omega) (by omega))
              by_cases hM : t / 32 % 2 = 1
              · rw [show decide (t / 32 % 2 = 1) = true by simp [hM]] at HMd
                by_cases hQ : q = 0
                · have hQ' : ¬ (0 : Int) < (q : Int) := by omega
                  have HQ := hide hQ
                  clear hQ
                  go_wp2_with fail
                  refine (HT.out _).mono ?_
                  rintro e w1 ⟨rfl, hw1⟩
                  subst hw1
                  go_wp2_with fail
                  refine (HK.out _).mono ?_
                  rintro e w1 ⟨rfl, hw1⟩
                  subst hw1
                  go_wp2_with fail
                  refine (HMd.out _).mono ?_
                  rintro e w1 ⟨rfl, hw1⟩
                  subst hw1
                  go_wp2_with fail
                  refine (HMd.out _).mono ?_
                  rintro e w1 ⟨rfl, hw1⟩
                  subst hw1
                  go_wp2
                  go_roundw
                  case rel => exact ⟨k + 1, by omega, by go_num, fun j hj => by
                                by_cases e : j = k
                                · subst e; exact HG.out.2 (by have := HQ.out; omega)
                                · exact HD.out j (by omega), HE.out.trans (Ext.alloc _ _)⟩
                  case measure => simp [intOf]; omega
                · have hQ' : (0 : Int) < (q : Int) := by omega
                  go_wp2_with fail
                  refine (HT.out _).mono ?_
                  rintro e w1 ⟨rfl, hw1⟩
                  subst hw1
                  go_wp2_with fail
                  refine (HK.out _).mono ?_
                  rintro e w1 ⟨rfl, hw1⟩
                  subst hw1
                  go_wp2_with fail
                  refine (HMd.out _).mono ?_
                  rintro e w1 ⟨rfl, hw1⟩
                  subst hw1
                  go_wp2
                  go_ret
                  exact ⟨ret_bool (HBad.out (fun g => by have := HG.out.1 g; omega)).symm, HE.out.trans (Ext.alloc _ _)⟩
              · rw [show decide (t / 32 % 2 = 1) = false by simp [hM]] at HMd
                by_cases hQ : c = 0
                · have hQ' : ¬ (0 : Int) < c := by omega
                  have HQ := hide hQ
                  clear hQ
                  go_wp2_with fail
                  refine (HT.out _).mono ?_
                  rintro e w1 ⟨rfl, hw1⟩
                  subst hw1
                  go_wp2_with fail
                  refine (HK.out _).mono ?_
                  rintro e w1 ⟨rfl, hw1⟩
                  subst hw1
                  go_wp2_with fail
                  refine (HMd.out _).mono ?_
                  rintro e w1 ⟨rfl, hw1⟩
                  subst hw1
                  go_wp2_with fail
                  refine (HMd.out _).mono ?_
                  rintro e w1 ⟨rfl, hw1⟩
                  subst hw1
                  go_wp2
                  go_roundw
                  case rel => exact ⟨k + 1, by omega, by go_num, fun j hj => by
                                by_cases e : j = k
                                · subst e; exact HG.out.2 (by have := HQ.out; omega)
                                · exact HD.out j (by omega), HE.out.trans (Ext.alloc _ _)⟩
                  case measure => simp [intOf]; omega
                · have hQ' : (0 : Int) < c := by omega
                  go_wp2_with fail
                  refine (HT.out _).mono ?_
                  rintro e w1 ⟨rfl, hw1⟩
                  subst hw1
                  go_wp2_with fail
                  refine (HK.out _).mono ?_
                  rintro e w1 ⟨rfl, hw1⟩
                  subst hw1
                  go_wp2_with fail
                  refine (HMd.out _).mono ?_
                  rintro e w1 ⟨rfl, hw1⟩
                  subst hw1
                  go_wp2_with fail
                  refine (HMd.out _).mono ?_
                  rintro e w1 ⟨rfl, hw1⟩
                  subst hw1
                  go_wp2
                  go_ret
                  exact ⟨ret_bool (HBad.out (fun g => by have := HG.out.1 g; omega)).symm, HE.out.trans (Ext.alloc _ _)⟩
            · rw [show (decide (0 ≤ c) && decide (c ≤ 300)) = false by simp; omega] at HK
              go_wp2_with fail
              refine (HT.out _).mono ?_
              rintro e w1 ⟨rfl, hw1⟩
              subst hw1
              go_wp2_with fail
              refine (HK.out _).mono ?_
              rintro e w1 ⟨rfl, hw1⟩
              subst hw1
              go_wp2
              go_ret
              exact ⟨ret_bool (HBad.out (fun g => by have := HG.out.1 g; omega)).symm, HE.out.trans (Ext.alloc _ _)⟩
        · rw [show (decide (0 ≤ t) && decide (t ≤ 255)) = false by simp; omega] at HT
          go_wp2_with fail
          refine (HT.out _).mono ?_
          rintro e w1 ⟨rfl, hw1⟩
          subst hw1
          go_wp2
          go_ret
          exact ⟨ret_bool (HBad.out (fun g => by have := HG.out.1 g; omega)).symm, HE.out.trans (Ext.alloc _ _)⟩
      · obtain rfl : k = n := by omega
        have HC := hide (l7End_any a b off k cap x w1 hs (by omega) (fun i hi => by have := HD.out i hi; unfold itGood at this; omega) 13 0 0 wr (by omega) (by omega) hE)
        have hr := endF_range (fun j => (x j).kid) k 13 0
        obtain ⟨z, hz⟩ : ∃ z, endF (fun j => (x j).kid) k 13 0 = z := ⟨_, rfl⟩
        rw [hz] at HC hr
        have HZ := hide hz
        have HE := hide hE
        clear hz hs hE
        go_wp2_with fail
        refine HC.out.mono ?_
        rintro e w2 ⟨rfl, hE2⟩
        have HE2 := hide hE2
        clear hE2
        go_wp2
        go_ret
        refine ⟨ret_bool ?_, HE.out.trans HE2.out⟩
        rw [← HF.out]
        unfold treeV
        rw [Bool.eq_iff_iff, HZ.out]
        have g1 : 1 ≤ k ∧ k ≤ 300 := hin
        have g2 := HD.out
        simp [g1.1, g1.2]
        try exact fun _ => g2
  · have HN : Hid (∀ W : World, Calls Tryz.prog 35 #[.int .i64 n, .int .i64 1, .int .i64 300] W fun e w' => e = .returned (.bool false) ∧ w' = W) := hide (fun W => by
      have := l1In_int n 1 300 W
      rwa [show (decide ((1 : Int) ≤ n) && decide ((n : Int) ≤ 300)) = false by simp; omega] at this)
    have HB : Hid (F = false) := hide (by rw [← HF.out]; exact decide_eq_false (fun g => hin ⟨g.1, g.2.1⟩))
    go_enter Tryz.func38, Tryz.ntmps38
    go_wp2_with fail
    refine (HN.out _).mono ?_
    rintro e w1 ⟨rfl, hw1⟩
    subst hw1
    go_wp2
    go_ret
    exact ⟨ret_bool HB.out.symm, Ext.refl _⟩
end

end Go.Proofs.YtgdjaapjdmancaaGreatDoor
