/- Walks: the model's TreeOk: l7End. Numbers: a tree told by a stack of what is still to come, and by places behind its parts. Nothing of the program. Walk: the model's l1In: whether a number lies between two. Walks: the model's TreeOk. Written by mktrt.py. A range over an iterator that keeps cells of its own between two rounds. What the caller knows lies below the place where the loop began; what the iterator knows lies behind the loop's record; a round turns nothing of both but what lies below. Nothing of the program. Numbers: the program's walk over a tree as a check of what an iterator tells. Nothing of the program. -/
import Derived.Test.YtmcdikbcmikihaaDoorSq02
import Derived.Test.YtmcdikbcmikihaaDoorChecked
import Derived.Test.YtmcdikbcmikihaaDoorSq01
import Derived.RangeFuncNested
import Derived.RangeFuncBound
import Derived.RangeFuncCalls
import Derived.RangeFuncLeaves
import Derived.Below
namespace Go.Proofs.YtmcdikbcmikihaaDoor

section
set_option linter.unusedVariables false
set_option linter.unusedSimpArgs false

open Go.RowKit

/-- k trees, one behind the other; f tells the place behind one, or -1. -/
def kidsF (f : Nat → Int) : Nat → Int → Int
  | 0, s => s
  | k + 1, s => if kidsF f k s < 0 then -1 else f (kidsF f k s).toNat

/-- The place behind the tree at i, where m more may be around; -1 where it is none. -/
def endF (kid : Nat → Int) (n : Nat) : Nat → Nat → Int
  | 0, _ => -1
  | m + 1, i => if n ≤ i then -1 else kidsF (endF kid n m) (kid i).toNat (i + 1)

theorem kidsF_range {f : Nat → Int} {n : Nat} (hf : ∀ i, -1 ≤ f i ∧ f i ≤ n) {s : Int} (s0 : -1 ≤ s) (s1 : s ≤ n) (k : Nat) : -1 ≤ kidsF f k s ∧ kidsF f k s ≤ n := by
  induction k with
  | zero => exact ⟨s0, s1⟩
  | succ k ih => unfold kidsF; split
                 · omega
                 · exact hf _

theorem kidsF_neg {f : Nat → Int} {s : Int} {k : Nat} (h : kidsF f k s < 0) (n : Nat) (hk : k < n) : kidsF f n s = -1 := by
  induction n with
  | zero => omega
  | succ n ih => by_cases e : k = n
                 · subst e; unfold kidsF; rw [if_pos h]
                 · unfold kidsF; rw [if_pos (by rw [ih (by omega)]; omega)]

theorem endF_range (kid : Nat → Int) (n : Nat) : ∀ (m i : Nat), -1 ≤ endF kid n m i ∧ endF kid n m i ≤ n
  | 0, i => by unfold endF; omega
  | m + 1, i => by
    unfold endF
    split
    · omega
    · exact kidsF_range (endF_range kid n m) (by omega) (by omega) _

set_option maxHeartbeats 1600000 in
theorem l7End_any (a : Option Addr) (b off n cap : Nat) (x : Nat → It) (w : World) (hs : ISeg w a b off n x) (hn : n ≤ 1048576) (hkid : ∀ i, i < n → 0 ≤ (x i).kid ∧ (x i).kid ≤ 1048576) :
    ∀ (m i d : Nat) (W : World), d + m = 12 + 1 → i ≤ n → Ext w W →
    Calls Tryd.prog 67 #[.slice a n cap, .int .i64 i, .int .i64 d] W fun e w' => e = .returned (.int .i64 (endF (fun j => (x j).kid) n m i)) ∧ Ext W w'
  | 0, i, d, W, hd, hi, hE => by
    have hd' : (d : Int) = 12 + 1 := by omega
    show Calls Tryd.prog 67 #[.slice a n cap, .int .i64 i, .int .i64 d] W fun e w' => e = .returned (.int .i64 (-1)) ∧ Ext W w'
    rw [hd']
    by_cases h : (n : Int) ≤ i
    · go_enter Tryd.func67, Tryd.ntmps67
      go_wp2
      go_ret
      exact ⟨rfl, Ext.refl _⟩
    · go_enter Tryd.func67, Tryd.ntmps67
      go_wp2
      go_ret
      exact ⟨rfl, Ext.refl _⟩
  | m + 1, i, d, W, hd, hi, hE => by
    by_cases h : n ≤ i
    · have h' : (n : Int) ≤ i := by omega
      have e1 : endF (fun j => (x j).kid) n (m + 1) i = -1 := by unfold endF; rw [if_pos h]
      rw [e1]
      go_enter Tryd.func67, Tryd.ntmps67
      go_wp2
      go_ret
      exact ⟨rfl, Ext.refl _⟩
    · have h' : ¬ (n : Int) ≤ i := by omega
      have hd' : ¬ (12 : Int) < d := by omega
      have e1 : endF (fun j => (x j).kid) n (m + 1) i = kidsF (endF (fun j => (x j).kid) n m) (x i).kid.toNat (i + 1) := by rw [endF]; rw [if_neg h]
      rw [e1]
      have IH := hide (fun (i : Nat) (W : World) (hi : i ≤ n) (hE : Ext w W) => l7End_any a b off n cap x w hs hn hkid m i (d + 1) W (by omega) hi hE)
      have hr := endF_range (fun j => (x j).kid) n m
      obtain ⟨f, hf⟩ : ∃ f, endF (fun j => (x j).kid) n m = f := ⟨_, rfl⟩
      rw [hf] at IH hr ⊢
      clear hf e1
      have hr2 := hide (fun k => kidsF_range (n := n) hr (s := (i : Int) + 1) (by omega) (by omega) k)
      have HR := hide hr
      obtain rfl := hs.at' (by omega)
      obtain ⟨hk0, hk1⟩ := hkid i (by omega)
      have HS := hide hs
      have HE := hide hE
      have HK := hide hkid
      obtain ⟨K, hK⟩ : ∃ K : Nat, (x i).kid = K := ⟨(x i).kid.toNat, by omega⟩
      have c2 := (hs.of_all hE).c2 i (by omega)
      rw [hK] at hk0 hk1 c2 ⊢
      rw [Int.toNat_natCast]
      clear hs hE hkid hr
      go_enter Tryd.func67, Tryd.ntmps67
      go_wp2
      clear c2
      go_loopw [7, 8] (fun c j wr => ∃ k : Nat, k ≤ K ∧ j = .int .i64 k ∧ 0 ≤ kidsF f k (i + 1) ∧ c = .int .i64 (kidsF f k (i + 1)) ∧ Ext W wr) (fun _ j _ => K - (intOf j).toNat)
      case atStart => exact ⟨0, Nat.zero_le _, rfl, by show (0 : Int) ≤ i + 1; omega, rfl, Ext.refl _⟩
      case round =>
        obtain ⟨k, hk, rfl, hz0, rfl, hE1⟩ := hrel
        have hz1 := (hr2.out k).2
        obtain ⟨z, hz⟩ : ∃ z : Nat, kidsF f k (i + 1) = z := ⟨(kidsF f k (i + 1)).toNat, by omega⟩
        rw [hz] at hz0 hz1 ⊢
        have c2 := (HS.out.of_all (HE.out.trans hE1)).c2 i (by omega)
        rw [hK] at c2
        have HE1 := hide hE1
        clear hE1
        by_cases hlt : k < K
        · have hlt' : (k : Int) < (K : Int) := by omega
          have hfz := HR.out z
          have hnx : kidsF f (k + 1) (i + 1) = f z := by
            show (if kidsF f k (i + 1) < 0 then -1 else f (kidsF f k (i + 1)).toNat) = f z
            rw [hz, if_neg (by omega), Int.toNat_natCast]
          have HC := hide (IH.out z wr (by omega) (HE.out.trans HE1.out))
          rw [show (((d + 1 : Nat)) : Int) = (d : Int) + 1 by omega] at HC
          obtain ⟨y, hy⟩ : ∃ y, f z = y := ⟨_, rfl⟩
          rw [hy] at HC hfz hnx
          have Hz := hide hz
          have Hy := hide hnx
          clear hy hz hnx
          go_wp2_with fail
          refine HC.out.mono ?_
          rintro e W2 ⟨rfl, hE2⟩
          have HE2 := hide hE2
          clear hE2
          by_cases hneg : y < 0
          · go_wp2
            go_ret
            have e1 : kidsF f K (i + 1) = -1 := by
              by_cases hkn1 : k + 1 = K
              · have := Hy.out; rw [hkn1] at this; rw [this]; omega
              · exact kidsF_neg (k := k + 1) (by rw [Hy.out]; exact hneg) K (by omega)
            exact ⟨by rw [e1]; rfl, HE1.out.trans HE2.out⟩
          · go_wp2
            go_roundw
            case rel => exact ⟨k + 1, by omega, by go_num, by rw [Hy.out]; omega, by rw [Hy.out], HE1.out.trans HE2.out⟩
            case measure => simp [intOf]; omega
        · obtain rfl : k = K := by omega
          go_wp2
          go_ret
          exact ⟨by rw [hz]; rfl, HE1.out⟩
end

section
set_option linter.unusedVariables false
set_option linter.unusedSimpArgs false

open Go.RowKit

theorem kidsF_minus (f : Nat → Int) (k : Nat) : kidsF f k (-1) = -1 := by
  induction k with
  | zero => rfl
  | succ k ih => unfold kidsF; rw [ih]; rfl

/-- The first of k + 1 trees ahead. -/
theorem kidsF_front (f : Nat → Int) (hf : ∀ i, -1 ≤ f i) (s : Nat) (k : Nat) : kidsF f (k + 1) s = kidsF f k (f s) := by
  induction k with
  | zero => simp [kidsF]; omega
  | succ k ih =>
    rw [kidsF, ih]
    conv => rhs; rw [kidsF]

/-- What comes of place r, where st is still to come of each item around, the innermost first. -/
def contF (kid : Nat → Int) (n : Nat) : List Nat → Int → Int
  | [], r => r
  | c :: st, r => contF kid n st (kidsF (endF kid n (12 - st.length)) c r)

theorem contF_minus (kid : Nat → Int) (n : Nat) : ∀ st, contF kid n st (-1) = -1
  | [] => rfl
  | c :: st => by unfold contF; rw [kidsF_minus, contF_minus kid n st]

/-- The stack behind an item: what is done is taken away, of the next one is taken. -/
def popF : List Nat → Option (List Nat)
  | [] => none
  | 0 :: st => popF st
  | (c + 1) :: st => some (c :: st)

theorem contF_pop (kid : Nat → Int) (n : Nat) (r : Nat) : ∀ st : List Nat, contF kid n st r = match popF st with
    | none => (r : Int)
    | some st' => contF kid n st' (endF kid n (13 - st'.length) r)
  | [] => rfl
  | 0 :: st => by
    show contF kid n st (kidsF _ 0 r) = _
    rw [show kidsF (endF kid n (12 - st.length)) 0 r = r from rfl, contF_pop kid n r st]
    rfl
  | (c + 1) :: st => by
    show contF kid n st (kidsF _ (c + 1) r) = contF kid n st (kidsF _ c _)
    rw [kidsF_front _ (fun i => (endF_range kid n _ i).1)]
    simp only [List.length_cons]
    rw [show 13 - (st.length + 1) = 12 - st.length by omega]

/-- A step of the walk. -/
theorem contF_step (kid : Nat → Int) (n i : Nat) (st : List Nat) (hi : i < n) (hd : st.length ≤ 12) :
    contF kid n st (endF kid n (13 - st.length) i) = contF kid n ((kid i).toNat :: st) ((i + 1 : Nat) : Int) := by
  show _ = contF kid n st (kidsF _ _ _)
  rw [show 13 - st.length = (12 - st.length) + 1 by omega]
  conv => lhs; rw [endF]
  rw [if_neg (by omega)]
  rfl

theorem contF_deep (kid : Nat → Int) (n i : Nat) (st : List Nat) (h : n ≤ i ∨ 12 < st.length) : contF kid n st (endF kid n (13 - st.length) i) = -1 := by
  have : endF kid n (13 - st.length) i = -1 := by
    by_cases h2 : 12 < st.length
    · rw [show 13 - st.length = 0 by omega]; rfl
    · rw [show 13 - st.length = (12 - st.length) + 1 by omega, endF, if_pos (by omega)]
  rw [this, contF_minus]

theorem kidsF_far (f : Nat → Int) (hf : ∀ i, 0 ≤ f i → (i : Int) + 1 ≤ f i) (s : Int) (k : Nat) (h : 0 ≤ kidsF f k s) : s + k ≤ kidsF f k s := by
  induction k with
  | zero => simp [kidsF]
  | succ k ih =>
    rw [kidsF] at h ⊢
    split at h
    · omega
    · rename_i h1
      rw [if_neg h1]
      have := hf _ h
      have := ih (by omega)
      omega

theorem endF_far (kid : Nat → Int) (n : Nat) : ∀ (m i : Nat), 0 ≤ endF kid n m i → (i : Int) + 1 ≤ endF kid n m i
  | 0, i, h => by rw [endF] at h; omega
  | m + 1, i, h => by
    rw [endF] at h ⊢
    split at h
    · omega
    · rename_i h1
      rw [if_neg h1]
      have := kidsF_far _ (endF_far kid n m) _ _ h
      omega

theorem contF_far (kid : Nat → Int) (n : Nat) : ∀ (st : List Nat) (r : Int), -1 ≤ r → r ≤ n → 0 ≤ contF kid n st r → r + (st.sum : Nat) ≤ contF kid n st r
  | [], r, _, _, h => by simp [contF]
  | c :: st, r, r0, r1, h => by
    rw [contF] at h ⊢
    obtain ⟨k0, k1⟩ := kidsF_range (endF_range kid n (12 - st.length)) r0 r1 c
    have h1 := contF_far kid n st _ k0 k1 h
    by_cases hk : 0 ≤ kidsF (endF kid n (12 - st.length)) c r
    · have := kidsF_far _ (endF_far kid n _) _ _ hk
      simp only [List.sum_cons]
      omega
    · exfalso
      have e : kidsF (endF kid n (12 - st.length)) c r = -1 := by omega
      rw [e, contF_minus] at h
      omega

theorem popF_sum : ∀ (st st' : List Nat), popF st = some st' → st'.sum + 1 = st.sum
  | [], st', h => by simp [popF] at h
  | 0 :: st, st', h => by have := popF_sum st st' h; simpa using this
  | (c + 1) :: st, st', h => by
    simp [popF] at h
    subst h
    simp; omega

theorem popF_none : ∀ (st : List Nat), popF st = none → st.sum = 0
  | [], _ => rfl
  | 0 :: st, h => by have := popF_none st h; simpa using this
  | (c + 1) :: st, h => by simp [popF] at h

/-- An item is well. -/
def itGood (x : It) : Prop := 0 ≤ x.tag ∧ x.tag ≤ 255 ∧ x.tag % 32 ≠ 31 ∧ 0 ≤ x.kid ∧ x.kid ≤ 300 ∧ (x.tag / 32 % 2 = 1 → x.len = 0) ∧ (x.tag / 32 % 2 ≠ 1 → x.kid = 0)

instance (x : It) : Decidable (itGood x) := by unfold itGood; infer_instance

/-- A list of items is one tree. -/
def treeV (x : Nat → It) (n : Nat) : Bool := decide (1 ≤ n ∧ n ≤ 300 ∧ (∀ i, i < n → itGood (x i)) ∧ endF (fun j => (x j).kid) n 13 0 = n)

/-- What the program asks of an item. -/
def itP (x : It) : Prop := 0 ≤ x.tag ∧ x.tag ≤ 255 ∧ x.tag % 32 ≠ 31 ∧ (x.tag / 32 % 2 = 1 → 0 ≤ x.kid ∧ x.len = 0) ∧ (x.tag / 32 % 2 ≠ 1 → x.kid = 0)

instance (x : It) : Decidable (itP x) := by unfold itP; infer_instance

theorem itP_of {x : It} (h : itGood x) : itP x := by
  obtain ⟨h1, h2, h3, h4, h5, h6, h7⟩ := h
  exact ⟨h1, h2, h3, fun m => ⟨h4, h6 m⟩, h7⟩

theorem itGood_of {x : It} (h : itP x) (h5 : x.kid ≤ 300) : itGood x := by
  obtain ⟨h1, h2, h3, h4, h7⟩ := h
  exact ⟨h1, h2, h3, by by_cases m : x.tag / 32 % 2 = 1
                        · exact (h4 m).1
                        · rw [h7 m]; omega, h5, fun m => (h4 m).2, h7⟩

theorem itP_kid {x : It} (h : itP x) : 0 ≤ x.kid := by
  obtain ⟨h1, h2, h3, h4, h7⟩ := h
  by_cases m : x.tag / 32 % 2 = 1
  · exact (h4 m).1
  · rw [h7 m]; omega

/-- The program's walk: from place i on, with st still to come of each item around and u untold. -/
def runP (x : Nat → It) : Nat → Nat → List Nat → Int → Bool
  | 0, _, _, u => decide (u = 0)
  | f + 1, i, st, u => if ¬ itP (x i) ∨ 12 < st.length ∨ u < (x i).kid then false else
    match popF ((x i).kid.toNat :: st) with
    | none => decide (u - (x i).kid = 0)
    | some st' => runP x f (i + 1) st' (u - (x i).kid)

theorem runP_tree (x : Nat → It) (n : Nat) (hn : n ≤ 300) : ∀ (f i : Nat) (st : List Nat) (u : Int), i + f = n → 0 ≤ u → u + (st.sum : Nat) + i + 1 = n → (∀ j, j < i → itGood (x j)) →
    runP x f i st u = decide ((∀ j, j < n → itGood (x j)) ∧ contF (fun j => (x j).kid) n st (endF (fun j => (x j).kid) n (13 - st.length) i) = n)
  | 0, i, st, u, h1, h2, h3, h4 => by omega
  | f + 1, i, st, u, h1, h2, h3, h4 => by
    rw [runP]
    by_cases hb : ¬ itP (x i) ∨ 12 < st.length ∨ u < (x i).kid
    · rw [if_pos hb]
      symm
      refine decide_eq_false (fun ⟨g, e⟩ => ?_)
      rcases hb with hb | hb | hb
      · exact hb (itP_of (g i (by omega)))
      · rw [contF_deep _ _ _ _ (Or.inr hb)] at e; omega
      · by_cases hd : st.length ≤ 12
        · rw [contF_step _ _ _ _ (by omega) hd] at e
          have hk := itP_kid (itP_of (g i (by omega)))
          have := contF_far (fun j => (x j).kid) n ((x i).kid.toNat :: st) ((i + 1 : Nat) : Int) (by omega) (by omega) (by rw [e]; omega)
          rw [e] at this
          simp only [List.sum_cons] at this
          omega
        · rw [contF_deep _ _ _ _ (Or.inr (by omega))] at e; omega
    · rw [if_neg hb]
      have hp : itP (x i) := by
        by_cases h : itP (x i)
        · exact h
        · exact absurd (Or.inl h) hb
      have hd : st.length ≤ 12 := by
        by_cases h : st.length ≤ 12
        · exact h
        · exact absurd (Or.inr (Or.inl (by omega))) hb
      have hu : (x i).kid ≤ u := by
        by_cases h : (x i).kid ≤ u
        · exact h
        · exact absurd (Or.inr (Or.inr (by omega))) hb
      have hk := itP_kid hp
      have hg : ∀ j, j < i + 1 → itGood (x j) := fun j hj => by
        by_cases e : j = i
        · subst e; exact itGood_of hp (by omega)
        · exact h4 j (by omega)
      rw [contF_step _ _ _ _ (by omega) hd, contF_pop]
      cases hq : popF ((x i).kid.toNat :: st) with
      | none =>
        have := popF_none _ hq
        simp only [List.sum_cons] at this
        simp only
        rw [decide_eq_decide]
        constructor
        · intro h
          exact ⟨fun j hj => hg j (by omega), by omega⟩
        · rintro ⟨_, h⟩
          omega
      | some st' =>
        have := popF_sum _ _ hq
        simp only [List.sum_cons] at this
        simp only
        exact runP_tree x n hn f (i + 1) st' _ (by omega) (by omega) (by omega) hg

/-- The program's answer is the model's. -/
theorem runP_treeV (x : Nat → It) (n : Nat) (h1 : 1 ≤ n) (hn : n ≤ 300) : runP x n 0 [] ((n : Int) - 1) = treeV x n := by
  rw [runP_tree x n hn n 0 [] _ (by omega) (by omega) (by simp) (fun j hj => absurd hj (Nat.not_lt_zero _))]
  unfold treeV
  rw [decide_eq_decide]
  exact ⟨fun h => ⟨h1, hn, h.1, h.2⟩, fun h => ⟨h.2.2.1, h.2.2.2⟩⟩
end

section
set_option linter.unusedVariables false

open Go.RowKit

theorem l1In_int (x a b : Int) (w : World) : Calls Tryd.prog 66 #[.int .i64 x, .int .i64 a, .int .i64 b] w fun e w' => e = .returned (.bool (decide (a ≤ x) && decide (x ≤ b))) ∧ w' = w := by
  by_cases h1 : a ≤ x
  · by_cases h2 : x ≤ b
    · go_enter Tryd.func66, Tryd.ntmps66
      go_wp2
      go_ret
      exact ⟨ret_bool (by rw [decide_eq_true (by omega : a ≤ x), decide_eq_true (by omega : x ≤ b)]; rfl), rfl⟩
    · go_enter Tryd.func66, Tryd.ntmps66
      go_wp2
      go_ret
      exact ⟨ret_bool (by simp; omega), rfl⟩
  · go_enter Tryd.func66, Tryd.ntmps66
    go_wp2
    go_ret
    exact ⟨ret_bool (by rw [decide_eq_false (by omega : ¬ a ≤ x)]; rfl), rfl⟩
end

section
set_option linter.unusedVariables false
set_option linter.unusedSimpArgs false

open Go.RowKit

theorem l7Made_any (t : Int) (w : World) (t0 : 0 ≤ t) (t1 : t ≤ 255) : Calls Tryd.prog 43 #[.int .i64 t] w fun e w' => e = .returned (.bool (decide (t / 32 % 2 = 1))) ∧ w' = w := by
  have e1 : t.tdiv 32 = t / 32 := Int.tdiv_eq_ediv_of_nonneg t0
  have e2 : (t / 32).tmod 2 = t / 32 % 2 := Int.tmod_eq_emod_of_nonneg (by omega)
  go_enter Tryd.func43, Tryd.ntmps43
  go_wp2
  go_ret
  exact ⟨ret_bool (by first | rfl | (rw [Bool.eq_iff_iff]; simp)), rfl⟩

set_option maxHeartbeats 0 in
theorem specTree_any (a : Option Addr) (b off n cap : Nat) (x : Nat → It) (w : World) (hs : ISeg w a b off n x) (hn : n ≤ 1048576) :
    Calls Tryd.prog 57 #[.slice a n cap] w fun e w' => e = .returned (.bool (treeV x n)) ∧ Ext w w' := by
  obtain ⟨F, hF⟩ : ∃ F, treeV x n = F := ⟨_, rfl⟩
  rw [hF]
  have HF := hide hF
  clear hF
  by_cases hin : 1 ≤ n ∧ n ≤ 300
  · have HN : Hid (∀ W : World, Calls Tryd.prog 66 #[.int .i64 n, .int .i64 1, .int .i64 300] W fun e w' => e = .returned (.bool true) ∧ w' = W) := hide (fun W => by
      have := l1In_int n 1 300 W
      rwa [show (decide ((1 : Int) ≤ n) && decide ((n : Int) ≤ 300)) = true by simp; omega] at this)
    go_enter Tryd.func57, Tryd.ntmps57
    go_wp2_with fail
    refine (HN.out _).mono ?_
    rintro e w1 ⟨rfl, hw1⟩
    subst hw1
    go_wp2
    go_loopw [3] (fun i wr => ∃ k : Nat, k ≤ n ∧ i = .int .i64 k ∧ (∀ j, j < k → itGood (x j)) ∧ Ext w1 wr) (fun i _ => n - (intOf i).toNat)
    case atStart => exact ⟨0, Nat.zero_le _, rfl, fun j hj => absurd hj (Nat.not_lt_zero _), Ext.refl _⟩
    case round =>
      obtain ⟨k, hk, rfl, hd, hE⟩ := hrel
      have HD := hide hd
      clear hd
      by_cases hlt : k < n
      · obtain rfl := hs.at' (by omega)
        have hs' := hs.of_all hE
        have c0 := hs'.c0 k hlt
        have c1 := hs'.c1 k hlt
        have c2 := hs'.c2 k hlt
        have hsm := hs.small k hlt
        have HE := hide hE
        have HS := hide hs
        clear hs hs' hE
        have hkn : (k : Int) < (n : Int) := by omega
        have HBad : Hid (¬ itGood (x k) → F = false) := hide (fun h => by rw [← HF.out]; exact decide_eq_false (fun g => h (g.2.2.1 k hlt)))
        obtain ⟨t, ht⟩ : ∃ t, (x k).tag = t := ⟨_, rfl⟩
        obtain ⟨c, hc⟩ : ∃ c, (x k).kid = c := ⟨_, rfl⟩
        obtain ⟨q, hq⟩ : ∃ q, (x k).len = q := ⟨_, rfl⟩
        have HG : Hid (itGood (x k) ↔ (0 ≤ t ∧ t ≤ 255 ∧ t % 32 ≠ 31 ∧ 0 ≤ c ∧ c ≤ 300 ∧ (t / 32 % 2 = 1 → q = 0) ∧ (t / 32 % 2 ≠ 1 → c = 0))) := hide (by unfold itGood; rw [ht, hc, hq])
        rw [ht] at c0
        rw [hq] at c1 hsm
        rw [hc] at c2
        clear ht hc hq
        have HT : Hid (∀ W : World, Calls Tryd.prog 66 #[.int .i64 t, .int .i64 0, .int .i64 255] W fun e w' => e = .returned (.bool (decide (0 ≤ t) && decide (t ≤ 255))) ∧ w' = W) := hide (fun W => l1In_int t 0 255 W)
        have HK : Hid (∀ W : World, Calls Tryd.prog 66 #[.int .i64 c, .int .i64 0, .int .i64 300] W fun e w' => e = .returned (.bool (decide (0 ≤ c) && decide (c ≤ 300))) ∧ w' = W) := hide (fun W => l1In_int c 0 300 W)
        by_cases hA : 0 ≤ t ∧ t ≤ 255
        · rw [show (decide (0 ≤ t) && decide (t ≤ 255)) = true by simp; omega] at HT
          have em : t.tmod 32 = t % 32 := Int.tmod_eq_emod_of_nonneg (by omega)
          by_cases hB : t % 32 = 31
          · have hB' : (t % 32 == 31) = true := by simp [hB]
            go_wp2_with fail
            refine (HT.out _).mono ?_
            rintro e w1 ⟨rfl, hw1⟩
            subst hw1
            go_wp2
            go_ret
            exact ⟨ret_bool (HBad.out (fun g => by have := HG.out.1 g; omega)).symm, HE.out.trans (Ext.alloc _ _)⟩
          · have hB' : (t % 32 == 31) = false := by simp [hB]
            by_cases hC : 0 ≤ c ∧ c ≤ 300
            · rw [show (decide (0 ≤ c) && decide (c ≤ 300)) = true by simp; omega] at HK
              have HMd : Hid (∀ W : World, Calls Tryd.prog 43 #[.int .i64 t] W fun e w' => e = .returned (.bool (decide (t / 32 % 2 = 1))) ∧ w' = W) := hide (fun W => l7Made_any t W (by omega) (by omega))
              by_cases hM : t / 32 % 2 = 1
              · rw [show decide (t / 32 % 2 = 1) = true by simp [hM]] at HMd
                by_cases hQ : q = 0
                · have hQ' : ¬ (0 : Int) < (q : Int) := by omega
                  have HQ := hide hQ
                  clear hQ
                  go_wp2_with fail
                  refine (HT.out _).mono ?_
                  rintro e w1 ⟨rfl, hw1⟩
                  subst hw1
                  go_wp2_with fail
                  refine (HK.out _).mono ?_
                  rintro e w1 ⟨rfl, hw1⟩
                  subst hw1
                  go_wp2_with fail
                  refine (HMd.out _).mono ?_
                  rintro e w1 ⟨rfl, hw1⟩
                  subst hw1
                  go_wp2_with fail
                  refine (HMd.out _).mono ?_
                  rintro e w1 ⟨rfl, hw1⟩
                  subst hw1
                  go_wp2
                  go_roundw
                  case rel => exact ⟨k + 1, by omega, by go_num, fun j hj => by
                                by_cases e : j = k
                                · subst e; exact HG.out.2 (by have := HQ.out; omega)
                                · exact HD.out j (by omega), HE.out.trans (Ext.alloc _ _)⟩
                  case measure => simp [intOf]; omega
                · have hQ' : (0 : Int) < (q : Int) := by omega
                  go_wp2_with fail
                  refine (HT.out _).mono ?_
                  rintro e w1 ⟨rfl, hw1⟩
                  subst hw1
                  go_wp2_with fail
                  refine (HK.out _).mono ?_
                  rintro e w1 ⟨rfl, hw1⟩
                  subst hw1
                  go_wp2_with fail
                  refine (HMd.out _).mono ?_
                  rintro e w1 ⟨rfl, hw1⟩
                  subst hw1
                  go_wp2
                  go_ret
                  exact ⟨ret_bool (HBad.out (fun g => by have := HG.out.1 g; omega)).symm, HE.out.trans (Ext.alloc _ _)⟩
              · rw [show decide (t / 32 % 2 = 1) = false by simp [hM]] at HMd
                by_cases hQ : c = 0
                · have hQ' : ¬ (0 : Int) < c := by omega
                  have HQ := hide hQ
                  clear hQ
                  go_wp2_with fail
                  refine (HT.out _).mono ?_
                  rintro e w1 ⟨rfl, hw1⟩
                  subst hw1
                  go_wp2_with fail
                  refine (HK.out _).mono ?_
                  rintro e w1 ⟨rfl, hw1⟩
                  subst hw1
                  go_wp2_with fail
                  refine (HMd.out _).mono ?_
                  rintro e w1 ⟨rfl, hw1⟩
                  subst hw1
                  go_wp2_with fail
                  refine (HMd.out _).mono ?_
                  rintro e w1 ⟨rfl, hw1⟩
                  subst hw1
                  go_wp2
                  go_roundw
                  case rel => exact ⟨k + 1, by omega, by go_num, fun j hj => by
                                by_cases e : j = k
                                · subst e; exact HG.out.2 (by have := HQ.out; omega)
                                · exact HD.out j (by omega), HE.out.trans (Ext.alloc _ _)⟩
                  case measure => simp [intOf]; omega
                · have hQ' : (0 : Int) < c := by omega
                  go_wp2_with fail
                  refine (HT.out _).mono ?_
                  rintro e w1 ⟨rfl, hw1⟩
                  subst hw1
                  go_wp2_with fail
                  refine (HK.out _).mono ?_
                  rintro e w1 ⟨rfl, hw1⟩
                  subst hw1
                  go_wp2_with fail
                  refine (HMd.out _).mono ?_
                  rintro e w1 ⟨rfl, hw1⟩
                  subst hw1
                  go_wp2_with fail
                  refine (HMd.out _).mono ?_
                  rintro e w1 ⟨rfl, hw1⟩
                  subst hw1
                  go_wp2
                  go_ret
                  exact ⟨ret_bool (HBad.out (fun g => by have := HG.out.1 g; omega)).symm, HE.out.trans (Ext.alloc _ _)⟩
            · rw [show (decide (0 ≤ c) && decide (c ≤ 300)) = false by simp; omega] at HK
              go_wp2_with fail
              refine (HT.out _).mono ?_
              rintro e w1 ⟨rfl, hw1⟩
              subst hw1
              go_wp2_with fail
              refine (HK.out _).mono ?_
              rintro e w1 ⟨rfl, hw1⟩
              subst hw1
              go_wp2
              go_ret
              exact ⟨ret_bool (HBad.out (fun g => by have := HG.out.1 g; omega)).symm, HE.out.trans (Ext.alloc _ _)⟩
        · rw [show (decide (0 ≤ t) && decide (t ≤ 255)) = false by simp; omega] at HT
          go_wp2_with fail
          refine (HT.out _).mono ?_
          rintro e w1 ⟨rfl, hw1⟩
          subst hw1
          go_wp2
          go_ret
          exact ⟨ret_bool (HBad.out (fun g => by have := HG.out.1 g; omega)).symm, HE.out.trans (Ext.alloc _ _)⟩
      · obtain rfl : k = n := by omega
        have HC := hide (l7End_any a b off k cap x w1 hs (by omega) (fun i hi => by have := HD.out i hi; unfold itGood at this; omega) 13 0 0 wr (by omega) (by omega) hE)
        have hr := endF_range (fun j => (x j).kid) k 13 0
        obtain ⟨z, hz⟩ : ∃ z, endF (fun j => (x j).kid) k 13 0 = z := ⟨_, rfl⟩
        rw [hz] at HC hr
        have HZ := hide hz
        have HE := hide hE
        clear hz hs hE
        go_wp2_with fail
        refine HC.out.mono ?_
        rintro e w2 ⟨rfl, hE2⟩
        have HE2 := hide hE2
        clear hE2
        go_wp2
        go_ret
        refine ⟨ret_bool ?_, HE.out.trans HE2.out⟩
        rw [← HF.out]
        unfold treeV
        rw [Bool.eq_iff_iff, HZ.out]
        have g1 : 1 ≤ k ∧ k ≤ 300 := hin
        have g2 := HD.out
        simp [g1.1, g1.2]
        try exact fun _ => g2
  · have HN : Hid (∀ W : World, Calls Tryd.prog 66 #[.int .i64 n, .int .i64 1, .int .i64 300] W fun e w' => e = .returned (.bool false) ∧ w' = W) := hide (fun W => by
      have := l1In_int n 1 300 W
      rwa [show (decide ((1 : Int) ≤ n) && decide ((n : Int) ≤ 300)) = false by simp; omega] at this)
    have HB : Hid (F = false) := hide (by rw [← HF.out]; exact decide_eq_false (fun g => hin ⟨g.1, g.2.1⟩))
    go_enter Tryd.func57, Tryd.ntmps57
    go_wp2_with fail
    refine (HN.out _).mono ?_
    rintro e w1 ⟨rfl, hw1⟩
    subst hw1
    go_wp2
    go_ret
    exact ⟨ret_bool HB.out.symm, Ext.refl _⟩
end

section
set_option linter.unusedVariables false
set_option linter.unusedSimpArgs false

open Go Go.RowKit

/-- What is known of the memory below B alone. -/
def Lw (B : Nat) (I : World → Prop) : Prop := ∀ W W', I W → Below B W W' → I W'

/-- A round's word: from B on nothing that lay there has turned, nor what X tells. -/
structure Rd (X : Nat → Prop) (B : Nat) (W W' : World) : Prop where
  os : W'.os = W.os
  tape : W'.tape = W.tape
  output : W'.output = W.output
  size : W.heap.size ≤ W'.heap.size
  same : ∀ k, (B ≤ k ∨ X k) → k < W.heap.size → W'.heap[k]? = W.heap[k]?

theorem Rd.refl (X : Nat → Prop) (B : Nat) (W : World) : Rd X B W W := ⟨rfl, rfl, rfl, Nat.le_refl _, fun _ _ _ => rfl⟩

theorem Rd.trans {X : Nat → Prop} {B : Nat} {A C D : World} (h : Rd X B A C) (k : Rd X B C D) : Rd X B A D :=
  ⟨k.os.trans h.os, k.tape.trans h.tape, k.output.trans h.output, Nat.le_trans h.size k.size, fun i hi hl => (k.same i hi (Nat.lt_of_lt_of_le hl h.size)).trans (h.same i hi hl)⟩

theorem Rd.mono {X : Nat → Prop} {B C : Nat} {A D : World} (h : Rd X B A D) (hc : B ≤ C) : Rd X C A D := ⟨h.os, h.tape, h.output, h.size, fun i hi hl => h.same i (hi.imp (Nat.le_trans hc) id) hl⟩

/-- How a round's body may be left. -/
def bodyEnds {α : Type} (X : Nat → Prop) (B : Nat) (I : List α → World → Prop) (Ix : Go.Code → List α → World → Prop) (xs : List α) (W : World) : Exit → Act → World → Prop
  | .normal, _, W' => Rd X B W W' ∧ I xs W'
  | .ret, _, W' => Rd X B W W' ∧ Ix .ret xs W'
  | .exit i, _, W' => Rd X B W W' ∧ Ix (.exit i) xs W'
  | _, _, _ => False

/-- The iterator's word: whatever the caller knows below its own memory is led through all that it tells. -/
def Tells {α : Type} (n : Nat) (P : Program) (g : Nat) (lb : Array Value) (encs : α → Array Value) (S Sp : List α → Prop) (N : Nat) (X : Nat → Prop) (w0 : World) : Prop :=
  ∀ (l : Nat) (J Jx : List α → World → Prop) (W : World), Below w0.heap.size w0 W → (∀ s, Lw W.heap.size (J s)) → (∀ s, Lw W.heap.size (Jx s)) →
    (∀ pre x W1, J pre W1 → W.heap.size ≤ W1.heap.size → pre.length < N → YieldAt Fence.wide (n - 1) P l (encs x) W1 fun e W' =>
      (e = .returned (.bool true) ∧ J (pre ++ [x]) W' ∧ Rd X W.heap.size W1 W') ∨ (e = .returned (.bool false) ∧ Jx (pre ++ [x]) W')) →
    J [] W →
    CallsIn Fence.wide n P g (#[.func (.yield l) #[] #[]] ++ lb) W fun e W' => (∃ v, e = .returned v) ∧ ((∃ xs, S xs ∧ J xs W') ∨ (∃ pre, Sp pre ∧ Jx pre W'))

theorem putObj_below (B : Nat) (W : World) (l : Nat) (o : Obj) (h : B ≤ l) : Below B W (W.putObj l o) :=
  ⟨rfl, rfl, rfl, by simp, fun k hk => World.putObj_heap_other (by omega)⟩

theorem putObj_rd (X : Nat → Prop) (B : Nat) (W : World) (l : Nat) (o : Obj) (h : l < B) (hx : ¬ X l) : Rd X B W (W.putObj l o) :=
  ⟨rfl, rfl, rfl, by simp, fun k hk _ => World.putObj_heap_other (by rintro rfl; rcases hk with hk | hk; exact absurd hk (by omega); exact hx hk)⟩

set_option maxHeartbeats 800000 in
theorem range_own {P : Program} {n : Nat} {α : Type} {g : Operand} {ps : Array Tmp} {assign body : Go.Code} {Q : Exit → Act → World → Prop} {a : Act} {w : World} (h1 : 1 ≤ n)
    {gf : Nat} {lb : Array Value} (hg : a.eval g = .func (.func gf) #[] lb) (eg : ∀ args w, (callFunc gf args).run P w = .ok (.enter gf args) w)
    {encs : α → Array Value} {S Sp : List α → Prop} {N : Nat} {X : Nat → Prop} {w0 : World} (hX : ∀ k, X k → k < w0.heap.size) (hseq : Tells (n - 1) P gf lb encs S Sp N X w0) (hb0 : Below w0.heap.size w0 w) (hps : ∀ x, (encs x).size = ps.size)
    (I : List α → World → Prop) (Ix : Go.Code → List α → World → Prop) (hI : ∀ s, Lw w.heap.size (I s)) (hIx : ∀ c s, Lw w.heap.size (Ix c s)) (h0 : I [] w) (Ax : α → Act)
    (hassign : ∀ (l : Nat) (x : α) (W : World) (K : Act → World → Prop), K (Ax x) W →
      assign.wpIn (Fence.wide.inRound l) (n - 1 - 1) P (Exit.then K (fun _ _ _ => False)) { tmps := (ps.zip (encs x)).foldl (fun t (p, v) => t.setIfInBounds p v) a.tmps, defers := [] } W)
    (hbody : ∀ (l : Nat) (pre : List α) (x : α) (W : World), I pre W → w.heap.size + 2 ≤ W.heap.size → pre.length < N → body.wpIn (Fence.wide.inRound l) (n - 1 - 1) P (bodyEnds X w.heap.size I Ix (pre ++ [x]) W) (Ax x) W)
    (hdone : ∀ (xs : List α) (W : World), S xs → I xs W → w.heap.size < W.heap.size → W.heap[w.heap.size]? = some (.deferred (some [])) → Q .normal { a with defers := { target := .collected w.heap.size, args := #[] } :: a.defers } W)
    (hstop : ∀ (c : Go.Code) (pre : List α) (W : World), Sp pre → Ix c pre W → w.heap.size < W.heap.size → W.heap[w.heap.size]? = some (.deferred (some [])) → c.wpIn Fence.wide n P Q { a with defers := { target := .collected w.heap.size, args := #[] } :: a.defers } W) :
    (Go.Code.rangeFunc g ps assign body).wpIn Fence.wide n P Q a w := by
  refine wpIn_rangeFunc (fun fn hfn => ?_)
  -- the record that the loop lays, in a given state
  obtain ⟨R, hR⟩ : ∃ R : LoopState → Option Go.Code → Loop, R = fun st pe => { state := st, pending := pe, fn := fn, tmps := a.tmps, params := ps, assign := assign, body := body, defers := w.heap.size } := ⟨_, rfl⟩
  obtain ⟨V, hV⟩ : ∃ V, (w.alloc (.deferred (some []))).alloc (.loop (R .ready none)) = V := ⟨_, rfl⟩
  have sV : V.heap.size = w.heap.size + 2 := by rw [← hV]; simp
  have bV : Below w.heap.size w V := by rw [← hV]; exact ((Below.refl _ _).alloc (Nat.le_refl _) _).alloc (by simp) _
  have rV : V.heap[w.heap.size + 1]? = some (.loop (R .ready none)) := by
    rw [← hV]
    have := World.alloc_heap_new (w.alloc (.deferred (some []))) (.loop (R .ready none))
    rwa [World.size_alloc] at this
  have dV : V.heap[w.heap.size]? = some (.deferred (some [])) := by
    rw [← hV]
    exact (Below.heap_alloc _ _ _ (by simp)).trans (World.alloc_heap_new w _)
  refine ⟨w.heap.size + 1, [{ target := .collected w.heap.size, args := #[] }], V, { target := .fn (.func gf) lb, args := #[.func (.yield (w.heap.size + 1)) #[] #[]] }, V, gf, #[.func (.yield (w.heap.size + 1)) #[] #[]] ++ lb, V, ?e1, ?e2, fun _ _ => trivial, ?e3, fun _ => h1, ?e4⟩
  case e1 => rw [← hV, hR]; exact run_enterLoop_outer _ _ _ _ _
  case e2 =>
    simp only [resolve, hg]
    simp [go_sem]
  case e3 => simp [invoke, go_sem, eg]
  case e4 =>
    -- a block below V's end that a world behind V still has
    have keep : ∀ {A C : World} {k : Nat} {o : Obj}, Below V.heap.size A C → k < V.heap.size → A.heap[k]? = some o → C.heap[k]? = some o := fun h hk ho => (h.block _ hk).trans ho
    refine (hseq (w.heap.size + 1)
      (fun pre W => I pre W ∧ W.heap[w.heap.size + 1]? = some (.loop (R .ready none)) ∧ W.heap[w.heap.size]? = some (.deferred (some [])))
      (fun pre W => ∃ c, Ix c pre W ∧ W.heap[w.heap.size + 1]? = some (.loop (R .done (some c))) ∧ W.heap[w.heap.size]? = some (.deferred (some [])))
      V (hb0.trans (bV.mono hb0.size))
      (fun s A C ⟨i, r, d⟩ h => ⟨hI s A C i (h.mono (by omega)), keep h (by omega) r, keep h (by omega) d⟩)
      (fun s A C ⟨c, i, r, d⟩ h => ⟨c, hIx c s A C i (h.mono (by omega)), keep h (by omega) r, keep h (by omega) d⟩)
      ?round ⟨hI [] w V h0 bV, rV, dV⟩).mono ?behind
    case round =>
      rintro pre x W ⟨hi, hr, hd⟩ hsz hlen
      have lt : w.heap.size + 1 < W.heap.size := (Array.getElem?_eq_some_iff.1 hr).1
      have hy := run_yield (P := P) (args := encs x) hr (by rw [hR]; exact hps x)
      rw [hR] at hy
      refine ⟨fn, _, assign, body, hy, roundIn_of_wpIn hfn (hassign _ x W _ ⟨_, run_beginRound hr (by rw [hR]), ?_⟩)⟩
      obtain ⟨U, hU⟩ : ∃ U, W.putObj (w.heap.size + 1) (.loop { R .ready none with state := .busy }) = U := ⟨_, rfl⟩
      rw [hU]
      have bU : Below w.heap.size W U := hU ▸ putObj_below _ _ _ _ (by omega)
      have nX : ¬ X (w.heap.size + 1) := fun h => by have := hX _ h; have := hb0.size; omega
      have uU : Rd X V.heap.size W U := hU ▸ putObj_rd _ _ _ _ _ (by omega) nX
      have rU : U.heap[w.heap.size + 1]? = some (.loop { R .ready none with state := .busy }) := by rw [← hU]; exact World.putObj_heap_same lt
      have dU : U.heap[w.heap.size]? = some (.deferred (some [])) := by rw [← hU]; exact (World.putObj_heap_other (by omega)).trans hd
      have zU : W.heap.size ≤ U.heap.size := bU.size
      refine wpIn_mono (hbody _ pre x U (hI pre W U hi bU) (by omega) hlen) ?_
      -- the round is shut
      have shut : ∀ (j : Option Go.Code) (W3 : World), Rd X w.heap.size U W3 →
          (Instr.endRound (w.heap.size + 1) j).run P W3 = .ok (.bool j.isNone) (W3.putObj (w.heap.size + 1) (.loop (R (if j.isNone then .ready else .done) j))) ∧
          (W3.putObj (w.heap.size + 1) (.loop (R (if j.isNone then .ready else .done) j))).heap[w.heap.size + 1]? = some (.loop (R (if j.isNone then .ready else .done) j)) ∧
          (W3.putObj (w.heap.size + 1) (.loop (R (if j.isNone then .ready else .done) j))).heap[w.heap.size]? = some (.deferred (some [])) ∧
          Below w.heap.size W3 (W3.putObj (w.heap.size + 1) (.loop (R (if j.isNone then .ready else .done) j))) ∧ Rd X V.heap.size W3 (W3.putObj (w.heap.size + 1) (.loop (R (if j.isNone then .ready else .done) j))) := fun j W3 h3 => by
        have r3 : W3.heap[w.heap.size + 1]? = some (.loop { R .ready none with state := .busy }) := (h3.same _ (Or.inl (by omega)) (by omega)).trans rU
        have d3 : W3.heap[w.heap.size]? = some (.deferred (some [])) := (h3.same _ (Or.inl (Nat.le_refl _)) (by omega)).trans dU
        have lt3 : w.heap.size + 1 < W3.heap.size := (Array.getElem?_eq_some_iff.1 r3).1
        have := run_endRound (P := P) j r3
        rw [hR] at this ⊢
        exact ⟨this, World.putObj_heap_same lt3, (World.putObj_heap_other (by omega)).trans d3, putObj_below _ _ _ _ (by omega), putObj_rd _ _ _ _ _ (by omega) nX⟩
      rintro e a3 W3 hp
      cases e with
      | normal =>
        obtain ⟨h3, i3⟩ := hp
        obtain ⟨s1, s2, s3, s4, s5⟩ := shut none W3 h3
        exact ⟨_, _, s1, .inl ⟨rfl, ⟨hI _ _ _ i3 s4, s2, s3⟩, (uU.trans (h3.mono (by omega))).trans s5⟩⟩
      | ret =>
        obtain ⟨h3, i3⟩ := hp
        obtain ⟨s1, s2, s3, s4, s5⟩ := shut (some .ret) W3 h3
        exact ⟨_, _, s1, .inr ⟨rfl, .ret, hIx _ _ _ _ i3 s4, s2, s3⟩⟩
      | exit i =>
        obtain ⟨h3, i3⟩ := hp
        obtain ⟨s1, s2, s3, s4, s5⟩ := shut (some (.exit i)) W3 h3
        exact ⟨_, _, s1, .inr ⟨rfl, .exit i, hIx _ _ _ _ i3 s4, s2, s3⟩⟩
      | goto i => exact hp.elim
      | panic ch => exact hp.elim
      | outgrown => exact hp.elim
    case behind =>
      rintro e W2 ⟨⟨v, rfl⟩, (⟨xs, hS, hi, hr, hd⟩ | ⟨pre, hSp, c, hi, hr, hd⟩)⟩
      · have lt : w.heap.size + 1 < W2.heap.size := (Array.getElem?_eq_some_iff.1 hr).1
        have := run_endLoop (P := P) hr (by rw [hR]; simp)
        rw [hR] at this
        exact ⟨none, _, this, hdone xs _ hS (hI _ _ _ hi (putObj_below _ _ _ _ (by omega))) (by simp; omega) ((World.putObj_heap_other (by omega)).trans hd)⟩
      · have lt : w.heap.size + 1 < W2.heap.size := (Array.getElem?_eq_some_iff.1 hr).1
        have := run_endLoop (P := P) hr (by rw [hR]; simp)
        rw [hR] at this
        exact ⟨some c, _, this, hstop c pre _ hSp (hIx _ _ _ _ hi (putObj_below _ _ _ _ (by omega))) (by simp; omega) ((World.putObj_heap_other (by omega)).trans hd)⟩
end

section
set_option linter.unusedVariables false
set_option linter.unusedSimpArgs false

open Go.RowKit

/-- What below tells from place i on: the place, how many are around. -/
def trP (kid : Nat → Int) : Nat → Nat → List Nat → List (Nat × Nat)
  | 0, _, _ => []
  | f + 1, i, st => (i, st.length) :: match popF ((kid i).toNat :: st) with
    | none => []
    | some st' => trP kid f (i + 1) st'

/-- One that is told is let through, u being untold. -/
def okAt (x : Nat → It) (u : Int) (p : Nat × Nat) : Prop := itP (x p.1) ∧ p.2 ≤ 12 ∧ (x p.1).kid ≤ u

instance (x : Nat → It) (u : Int) (p : Nat × Nat) : Decidable (okAt x u p) := by unfold okAt; infer_instance

/-- What is untold behind these; none where one is refused. -/
def chk (x : Nat → It) : List (Nat × Nat) → Int → Option Int
  | [], u => some u
  | p :: r, u => if okAt x u p then chk x r (u - (x p.1).kid) else none

theorem chk_append (x : Nat → It) : ∀ (a b : List (Nat × Nat)) (u : Int), chk x (a ++ b) u = (chk x a u).bind (chk x b)
  | [], b, u => rfl
  | p :: a, b, u => by
    rw [List.cons_append, chk, chk]
    split
    · exact chk_append x a b _
    · rfl

theorem chk_one (x : Nat → It) (pre : List (Nat × Nat)) (p : Nat × Nat) (u v : Int) (h : chk x pre u = some v) : chk x (pre ++ [p]) u = if okAt x v p then some (v - (x p.1).kid) else none := by
  rw [chk_append, h]
  rfl

theorem chk_prefix (x : Nat → It) (pre t : List (Nat × Nat)) (u : Int) (hp : pre <+: t) (h : chk x pre u = none) : chk x t u = none := by
  obtain ⟨r, rfl⟩ := hp
  rw [chk_append, h]
  rfl

/-- What is untold lies between nothing and what was. -/
theorem chk_range (x : Nat → It) : ∀ (t : List (Nat × Nat)) (u v : Int), 0 ≤ u → chk x t u = some v → 0 ≤ v ∧ v ≤ u
  | [], u, v, h, e => by simp [chk] at e; omega
  | p :: t, u, v, h, e => by
    rw [chk] at e
    split at e
    · rename_i ho
      have hk := itP_kid ho.1
      have hle := ho.2.2
      have := chk_range x t _ v (by omega) e
      omega
    · cases e

theorem runP_chk (x : Nat → It) : ∀ (f i : Nat) (st : List Nat) (u : Int), runP x f i st u = match chk x (trP (fun j => (x j).kid) f i st) u with
    | none => false
    | some v => decide (v = 0)
  | 0, i, st, u => rfl
  | f + 1, i, st, u => by
    rw [runP, trP, chk]
    by_cases h : okAt x u (i, st.length)
    · have h' := h
      obtain ⟨h1, h2, h3⟩ := h'
      simp only at h1 h2 h3
      rw [if_neg (by rintro (g | g | g); exact g h1; omega; omega), if_pos h]
      cases hq : popF ((x i).kid.toNat :: st) with
      | none => rfl
      | some st' => exact runP_chk x f (i + 1) st' _
    · rw [if_neg h, if_pos]
      by_cases h1 : itP (x i)
      · by_cases h2 : st.length ≤ 12
        · by_cases h3 : (x i).kid ≤ u
          · exact absurd ⟨h1, h2, h3⟩ h
          · exact Or.inr (Or.inr (by omega))
        · exact Or.inr (Or.inl (by omega))
      · exact Or.inl h1
end

end Go.Proofs.YtmcdikbcmikihaaDoor
