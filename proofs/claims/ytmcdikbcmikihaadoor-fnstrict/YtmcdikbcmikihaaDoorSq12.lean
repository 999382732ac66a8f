/- The program's steps over bytes, in plain numbers: what its iterator tells, and what a caller may rely on. A scope in which the run jumps to labels of its own, inside a fence. Nothing of the program. A range over an iterator that keeps cells of its own between two rounds, and a body that makes memory of its own in a round: O tells whose a block is: the iterator's (and the loop's record). A round keeps what is O's, the iterator turns nothing but what is O's. Nothing of the program. As range_ownO, where what the round assigns lies in memory of its own, and the iterator tells what may come behind what has come. Nothing of the program. -/
import Derived.Test.YtmcdikbcmikihaaDoorSq06
import Derived.ControlIn
import Derived.Scope
import Derived.WalkKit
import Derived.Test.YtmcdikbcmikihaaDoorSq03
import Derived.Test.YtmcdikbcmikihaaDoorSq01
namespace Go.Proofs.YtmcdikbcmikihaaDoor

section
set_option linter.unusedVariables false
set_option linter.unusedSimpArgs false

/-- What the iterator tells: heads, then a fault if there is one. -/
def tel (H : List Hed) (c p : Int) : List (Hed ⊕ (Int × Int)) := H.map .inl ++ (if c = 0 then [] else [.inr (c, p)])

theorem tel_len (H : List Hed) (c p : Int) : (tel H c p).length ≤ H.length + 1 := by
  unfold tel
  split <;> simp

theorem beh_sub : ∀ {a : Nat} {es es' : List Nat}, beh a es = some es' → es' <:+ es ∧ 2 ≤ es'.length ∧ (∃ e r, es' = e :: r ∧ a < e)
  | a, [], es', h => by simp [beh] at h
  | a, [e], es', h => by simp [beh] at h
  | a, e :: e2 :: r, es', h => by
    rw [beh] at h
    split at h
    · rename_i hlt
      obtain rfl := Option.some.inj h
      exact ⟨List.suffix_refl _, by simp, e, _, rfl, hlt⟩
    · obtain ⟨h1, h2, h3⟩ := beh_sub h
      exact ⟨h1.trans (List.suffix_cons _ _), h2, h3⟩

/-- The step behind a head. -/
theorem run_next {f : Nat → Int} {h : Hed} {H : List Hed} {a : Nat} {es : List Nat} {c p : Int} (k : Run f a es (h :: H) c p) :
    ∃ e r, es = e :: r ∧ (hdC f a e r.length).1 = 0 ∧ h = hdOf f a e r.length ∧ Goes f (if mdT (f a) then hdS f a e else hdE f a e) (if mdT (f a) then hdE f a e :: e :: r else e :: r) H c p := k

/-- What holds of each head that comes. -/
structure HedOk (f : Nat → Int) (bn : Nat) (h : Hed) : Prop where
  tg : ∃ a, a < bn ∧ h.tag = f a
  se : h.st ≤ h.en
  en : h.en ≤ bn
  ar : h.ar ≤ 12

theorem run_ok {f : Nat → Int} {bn : Nat} : ∀ (H : List Hed) (a : Nat) (es : List Nat) (c p : Int), Run f a es H c p → (∀ e ∈ es, e ≤ bn) → a ≤ bn → 2 * H.length + a ≤ bn ∧ ∀ h ∈ H, HedOk f bn h
  | [], a, es, c, p, _, _, ha => ⟨by simpa using ha, fun h hh => by cases hh⟩
  | h :: H, a, es, c, p, k, he, ha => by
    obtain ⟨e, r, rfl, h0, rfl, hg⟩ := run_next k
    have g := hdC_ok h0
    have he1 := he e (List.mem_cons.2 (.inl rfl))
    have hok : HedOk f bn (hdOf f a e r.length) := ⟨⟨a, by omega, rfl⟩, g.2.2.2.2.2.2, Nat.le_trans g.2.2.2.2.1 he1, g.2.2.1⟩
    have hes : ∀ x ∈ (if mdT (f a) then hdE f a e :: e :: r else e :: r), x ≤ bn := by
      intro x hx
      split at hx
      · rcases List.mem_cons.1 hx with rfl | hx
        · exact Nat.le_trans g.2.2.2.2.1 he1
        · exact he x hx
      · exact he x hx
    have ha2 : (if mdT (f a) then hdS f a e else hdE f a e) ≤ bn ∧ a + 2 ≤ (if mdT (f a) then hdS f a e else hdE f a e) := by
      split <;> omega
    generalize (if mdT (f a) then hdS f a e else hdE f a e) = a2 at *
    generalize (if mdT (f a) then hdE f a e :: e :: r else e :: r) = es2 at *
    rcases hg with ⟨-, rfl, -, -⟩ | ⟨es', hb, hr⟩
    · exact ⟨by simp; omega, fun x hx => by rcases List.mem_cons.1 hx with rfl | hx; exact hok; cases hx⟩
    · have ih := run_ok H a2 es' c p hr (fun x hx => hes x ((beh_sub hb).1.subset hx)) ha2.1
      exact ⟨by rw [List.length_cons]; omega, fun x hx => by rcases List.mem_cons.1 hx with rfl | hx; exact hok; exact ih.2 x hx⟩

/-- Behind the first one each has one around. -/
theorem run_ar {f : Nat → Int} : ∀ (H : List Hed) (a : Nat) (es : List Nat) (c p : Int), Run f a es H c p → 2 ≤ es.length → ∀ h ∈ H, 0 < h.ar
  | [], _, _, _, _, _, _, h, hh => by cases hh
  | h :: H, a, es, c, p, k, he, x, hx => by
    obtain ⟨e, r, rfl, h0, rfl, hg⟩ := run_next k
    rcases List.mem_cons.1 hx with rfl | hx
    · show 0 < r.length
      simp at he
      omega
    · rcases hg with ⟨-, rfl, -, -⟩ | ⟨es', hb, hr⟩
      · cases hx
      · exact run_ar H _ es' c p hr (beh_sub hb).2.1 x hx

/-- Where the top one ends. -/
def topF (t : Nat) (h : Hed) : Nat := if h.ar = 0 then h.en else t

theorem top_same : ∀ (H : List Hed) (t : Nat), (∀ h ∈ H, 0 < h.ar) → H.foldl topF t = t
  | [], _, _ => rfl
  | h :: H, t, k => by
    have := k h (List.mem_cons.2 (.inl rfl))
    rw [List.foldl_cons]
    show H.foldl topF (if h.ar = 0 then h.en else t) = t
    rw [if_neg (by omega)]
    exact top_same H t (fun x hx => k x (List.mem_cons.2 (.inr hx)))

theorem run_top {f : Nat → Int} {h : Hed} {H : List Hed} {a e : Nat} {c p : Int} (k : Run f a [e] (h :: H) c p) : (h :: H).foldl topF 0 = h.en := by
  obtain ⟨e', r, he, h0, rfl, hg⟩ := run_next k
  simp only [List.cons.injEq] at he
  obtain ⟨rfl, rfl⟩ := he
  rw [List.foldl_cons]
  have e1 : topF 0 (hdOf f a e ([] : List Nat).length) = (hdOf f a e ([] : List Nat).length).en := by
    unfold topF
    exact if_pos (show (hdOf f a e ([] : List Nat).length).ar = 0 from rfl)
  rw [e1]
  refine top_same H _ ?_
  rcases hg with ⟨-, rfl, -, -⟩ | ⟨es', hb, hr⟩
  · intro h hh; cases hh
  · exact run_ar H _ es' c p hr (beh_sub hb).2.1

/-- Each line of places stands for items that have come. -/
theorem addH_low {f : Nat → Int} {S : List Ic × List Nat} (h : Hed) (k : ∀ q ∈ S.2, q < S.1.length) : ∀ q ∈ (addH f S h).2, q < (addH f S h).1.length := by
  intro q hq
  unfold addH at hq ⊢
  rw [List.length_append, bmpL_len]
  rcases List.mem_append.1 hq with hq | hq
  · have := k q (List.mem_of_mem_take hq)
    simp
    omega
  · rw [List.mem_singleton] at hq
    simp
    omega

theorem addH_low_all {f : Nat → Int} : ∀ (H : List Hed) (S : List Ic × List Nat), (∀ q ∈ S.2, q < S.1.length) → ∀ q ∈ (H.foldl (addH f) S).2, q < (H.foldl (addH f) S).1.length
  | [], S, k => k
  | h :: H, S, k => addH_low_all H _ (addH_low h k)

theorem addH_len {f : Nat → Int} : ∀ (H : List Hed) (S : List Ic × List Nat), (H.foldl (addH f) S).1.length = S.1.length + H.length
  | [], S => rfl
  | h :: H, S => by
    rw [List.foldl_cons, addH_len H, List.length_cons]
    unfold addH
    rw [List.length_append, bmpL_len]
    simp
    omega

theorem addH_line {f : Nat → Int} {S : List Ic × List Nat} {h : Hed} (k : h.ar ≤ S.2.length) : (addH f S h).2.length = h.ar + 1 := by
  unfold addH
  rw [List.length_append, List.length_take]
  simp
  omega

/-- A head that comes has no more around than there are places in the line. -/
theorem run_line {f : Nat → Int} : ∀ (H : List Hed) (a : Nat) (es : List Nat) (c p : Int) (S : List Ic × List Nat), Run f a es H c p → es.length ≤ S.2.length + 1 →
    ∀ (pre : List Hed) (h : Hed), pre ++ [h] <+: H → h.ar ≤ (pre.foldl (addH f) S).2.length
  | [], a, es, c, p, S, k, he, pre, h, hp => by
    have := hp.length_le
    simp at this
  | x :: H, a, es, c, p, S, k, he, pre, h, hp => by
    obtain ⟨e, r, rfl, h0, rfl, hg⟩ := run_next k
    have har : (hdOf f a e r.length).ar ≤ S.2.length := by
      show r.length ≤ _
      simp at he
      omega
    cases pre with
    | nil =>
      obtain ⟨t, ht⟩ := hp
      simp only [List.nil_append, List.cons_append, List.cons.injEq] at ht
      rw [ht.1]
      exact har
    | cons y pre =>
      obtain ⟨t, ht⟩ := hp
      simp only [List.cons_append, List.cons.injEq] at ht
      obtain ⟨rfl, ht⟩ := ht
      rw [List.foldl_cons]
      have hl := addH_line (f := f) har
      rcases hg with ⟨-, rfl, -, -⟩ | ⟨es', hb, hr⟩
      · simp at ht
      · refine run_line H _ es' c p _ hr ?_ pre h ⟨t, by rw [← ht]⟩
        rw [hl]
        have hs := (beh_sub hb).1.length_le
        show es'.length ≤ r.length + 1 + 1
        split at hs <;> simp at hs <;> omega

/-- What the program's loop makes of the heads of a right run is what the model's reader tells. -/
theorem run_right (f : Nat → Int) (bn : Nat) (h : (rdT f 14 0 bn 0).code = 0) :
    Run f 0 [bn] (rdT f 14 0 bn 0).hs 0 0 ∧ ((rdT f 14 0 bn 0).hs.foldl (addH f) ([], [])).1 = (rdT f 14 0 bn 0).its ∧ (rdT f 14 0 bn 0).hs.foldl topF 0 = (rdT f 14 0 bn 0).nx := by
  have h1 := (sim_I f 13 0 bn [] rfl).2 h [] 0 0 (.inl ⟨rfl, rfl, rfl, rfl⟩)
  rw [List.append_nil] at h1
  have hl : ([] : List Nat).length = 0 := rfl
  rw [hl] at h1
  refine ⟨h1, ?_, ?_⟩
  · obtain ⟨rest, e⟩ := fold_I f 14 0 bn 0 h [] [] (Nat.zero_le _) (fun h => absurd h (Nat.lt_irrefl _))
    rw [e]
    rfl
  · have e : (∃ H, (rdT f 14 0 bn 0).hs = hdOf f 0 bn 0 :: H) ∧ (rdT f 14 0 bn 0).nx = hdE f 0 bn := by
      rw [rdT] at h ⊢
      by_cases hd : (hdC f 0 bn 0).1 = 0
      · rw [if_neg (fun k => k hd)] at h ⊢
        by_cases hm : mdT (f 0) = false
        · rw [if_pos hm]
          exact ⟨⟨_, rfl⟩, rfl⟩
        · rw [if_neg hm] at h ⊢
          split at h
          · rename_i h3; exact absurd h h3
          · rename_i h3
            rw [if_neg h3]
            exact ⟨⟨_, rfl⟩, rfl⟩
      · rw [if_pos hd] at h
        exact absurd h hd
    obtain ⟨⟨H, e1⟩, e2⟩ := e
    rw [e1] at h1 ⊢
    rw [run_top h1, e2]
    rfl

theorem run_wrong (f : Nat → Int) (bn : Nat) (h : (rdT f 14 0 bn 0).code ≠ 0) : ∃ H, Run f 0 [bn] H (rdT f 14 0 bn 0).code (rdT f 14 0 bn 0).pl :=
  (sim_I f 13 0 bn [] rfl).1 h
end

section
set_option linter.unusedVariables false

open Go

theorem stepR_scope {P : Program} {b : Frame} {a : Act} {k : List Item} {cs : List Frame} {w : World} {c : Go.Code} : step P (lone (b.atR a (.code (.scope c) :: k)) cs w) = .next (lone (b.atR a (.code c :: .inScope c :: k)) cs w) :=
  step_lone_go (by simp [stepG, stepG.exec, Frame.atR])

theorem stepR_inScope {P : Program} {b : Frame} {a : Act} {k : List Item} {cs : List Frame} {w : World} {c : Go.Code} : step P (lone (b.atR a (.inScope c :: k)) cs w) = .next (lone (b.atR a k) cs w) :=
  step_lone_go (by simp [stepG, stepG.exec, Frame.atR])

/-- As Q; by a goto to a label l: J l. -/
def jumpsTo (J : Nat → Act → World → Prop) (Q : Exit → Act → World → Prop) : Exit → Act → World → Prop
  | .goto l, a, w => J l a w
  | e, a, w => Q e a w

theorem wpIn_scope_jumps {F : Fence} {n : Nat} {P : Program} {Q : Exit → Act → World → Prop} {a : Act} {w : World} {c : Go.Code} (J : Nat → Act → World → Prop) (μ : Nat → Act → World → Nat)
    (first : c.wpIn F n P (jumpsTo J Q) a w)
    (pass : ∀ l a w, J l a w → ∃ rest, findLabel c l = some rest ∧ rest.wpIn F n P (jumpsTo (fun l' a' w' => J l' a' w' ∧ μ l' a' w' < μ l a w) Q) a w) : (Go.Code.scope c).wpIn F n P Q a w := by
  intro b k cs hro hb hr
  have fin : ∀ {m : Machine} {e : Exit} {a' : Act} {w' : World}, (∀ l, e ≠ .goto l) → ArrivesIn (Machine.fenced P F) P m b (.inScope c :: k) cs e a' w' → ArrivesIn (Machine.fenced P F) P m b k cs e a' w' := by
    intro m e a' w' hne h
    cases e with
    | normal => exact StepsIn.trans h (.one (fenced_calm hb hr rfl) stepR_inScope)
    | exit id =>
      have hx : exitTo id (.inScope c :: k) = exitTo id k := by simp [exitTo]
      exact ⟨fun k' hk => h.1 k' (by rw [hx]; exact hk), fun hr' hk => h.2 hr' (by rw [hx]; exact hk)⟩
    | goto l => exact absurd rfl (hne l)
    | ret => exact h
    | panic ch => exact h
    | outgrown => exact h
  have key : ∀ j l a w, μ l a w = j → J l a w → ∀ rest, findLabel c l = some rest →
      ∃ e a' w', Q e a' w' ∧ ArrivesIn (Machine.fenced P F) P (lone (b.atR a (.code rest :: .inScope c :: k)) cs w) b k cs e a' w' := by
    intro j
    induction j using Nat.strongRecOn with
    | _ j ih =>
      intro l a w hj hJ rest hf
      obtain ⟨rest', hf', hp⟩ := pass l a w hJ
      rw [hf] at hf'
      obtain rfl := Option.some.inj hf'
      obtain ⟨e, a₁, w₁, hq, harr⟩ := hp b (.inScope c :: k) cs hro hb hr
      cases e with
      | goto l' =>
        obtain ⟨hJ', hlt⟩ := hq
        obtain ⟨rest2, hf2, -⟩ := pass l' a₁ w₁ hJ'
        obtain ⟨e₂, a₂, w₂, hq₂, harr₂⟩ := ih _ (hj ▸ hlt) l' a₁ w₁ rfl hJ' rest2 hf2
        exact ⟨e₂, a₂, w₂, hq₂, .of_steps (harr.1 _ (by simp [gotoIn, hf2])) harr₂⟩
      | normal => exact ⟨_, a₁, w₁, hq, fin (fun l => by simp) harr⟩
      | exit id => exact ⟨_, a₁, w₁, hq, fin (fun l => by simp) harr⟩
      | ret => exact ⟨_, a₁, w₁, hq, fin (fun l => by simp) harr⟩
      | panic ch => exact ⟨_, a₁, w₁, hq, fin (fun l => by simp) harr⟩
      | outgrown => exact ⟨_, a₁, w₁, hq, fin (fun l => by simp) harr⟩
  have h0 : (lone (b.atR a (.code (.scope c) :: k)) cs w).fenced P F := fenced_calm hb hr rfl
  obtain ⟨e, a₁, w₁, hq, harr⟩ := first b (.inScope c :: k) cs hro hb hr
  cases e with
  | goto l' =>
    obtain ⟨rest2, hf2, -⟩ := pass l' a₁ w₁ hq
    obtain ⟨e₂, a₂, w₂, hq₂, harr₂⟩ := key _ l' a₁ w₁ rfl hq rest2 hf2
    exact ⟨e₂, a₂, w₂, hq₂, .of_steps (.head h0 stepR_scope (harr.1 _ (by simp [gotoIn, hf2]))) harr₂⟩
  | normal => exact ⟨_, a₁, w₁, hq, .of_steps (.one h0 stepR_scope) (fin (fun l => by simp) harr)⟩
  | exit id => exact ⟨_, a₁, w₁, hq, .of_steps (.one h0 stepR_scope) (fin (fun l => by simp) harr)⟩
  | ret => exact ⟨_, a₁, w₁, hq, .of_steps (.one h0 stepR_scope) (fin (fun l => by simp) harr)⟩
  | panic ch => exact ⟨_, a₁, w₁, hq, .of_steps (.one h0 stepR_scope) (fin (fun l => by simp) harr)⟩
  | outgrown => exact ⟨_, a₁, w₁, hq, .of_steps (.one h0 stepR_scope) (fin (fun l => by simp) harr)⟩

/-- Two labels: what runs from the second one is proved first, then what runs from the first one. -/
theorem wpIn_scope_two {F : Fence} {n : Nat} {P : Program} {Q : Exit → Act → World → Prop} {a : Act} {w : World} {c X0 X1 : Go.Code} (h0 : findLabel c 0 = some (.seq .skip X0)) (h1 : findLabel c 1 = some (.seq .skip X1)) (J : Nat → Act → World → Prop) (μ : Nat → Act → World → Nat) (hJ : ∀ l a w, J l a w → l = 0 ∨ l = 1)
    (leaf1 : ∀ M a w, J 1 a w → μ 1 a w ≤ M → X1.wpIn F n P (jumpsTo (fun l' a' w' => J l' a' w' ∧ μ l' a' w' < M) Q) a w)
    (leaf0 : (∀ M a w, J 1 a w → μ 1 a w ≤ M → X1.wpIn F n P (jumpsTo (fun l' a' w' => J l' a' w' ∧ μ l' a' w' < M) Q) a w) → ∀ M a w, J 0 a w → μ 0 a w ≤ M → X0.wpIn F n P (jumpsTo (fun l' a' w' => J l' a' w' ∧ μ l' a' w' < M) Q) a w)
    (first : (∀ a w, J 0 a w → X0.wpIn F n P (jumpsTo J Q) a w) → c.wpIn F n P (jumpsTo J Q) a w) : (Go.Code.scope c).wpIn F n P Q a w := by
  refine wpIn_scope_jumps J μ (first fun a w h => wpIn_mono (leaf0 leaf1 _ a w h (Nat.le_refl _)) ?_) fun l a w h => ?_
  · intro e a' w' q
    cases e with
    | goto l => exact q.1
    | _ => exact q
  · rcases hJ l a w h with rfl | rfl
    · refine ⟨_, h0, wpIn_seq (wpIn_skip ?_)⟩
      exact leaf0 leaf1 _ a w h (Nat.le_refl _)
    · refine ⟨_, h1, wpIn_seq (wpIn_skip ?_)⟩
      exact leaf1 _ a w h (Nat.le_refl _)
end

section
set_option linter.unusedVariables false
set_option linter.unusedSimpArgs false

open Go Go.RowKit

/-- A step of the iterator's: what is not O's lies as it lay; what is new is O's. -/
structure Stp (O : Nat → Prop) (A : World) (O' : Nat → Prop) (C : World) : Prop where
  os : C.os = A.os
  tape : C.tape = A.tape
  output : C.output = A.output
  size : A.heap.size ≤ C.heap.size
  same : ∀ k, k < A.heap.size → ¬ O k → C.heap[k]? = A.heap[k]?
  own : ∀ k, O' k ↔ O k ∨ (A.heap.size ≤ k ∧ k < C.heap.size)

def AbO (I : (Nat → Prop) → World → Prop) : Prop := ∀ O O' A C, I O A → Stp O A O' C → I O' C

/-- A round's word: what is O's, and what X tells, lies as it lay. -/
structure RdO (X O : Nat → Prop) (W W' : World) : Prop where
  os : W'.os = W.os
  tape : W'.tape = W.tape
  output : W'.output = W.output
  size : W.heap.size ≤ W'.heap.size
  same : ∀ k, (O k ∨ X k) → k < W.heap.size → W'.heap[k]? = W.heap[k]?

theorem RdO.refl (X O : Nat → Prop) (W : World) : RdO X O W W := ⟨rfl, rfl, rfl, Nat.le_refl _, fun _ _ _ => rfl⟩

theorem RdO.trans {X O : Nat → Prop} {A C D : World} (h : RdO X O A C) (k : RdO X O C D) : RdO X O A D :=
  ⟨k.os.trans h.os, k.tape.trans h.tape, k.output.trans h.output, Nat.le_trans h.size k.size, fun i hi hl => (k.same i hi (Nat.lt_of_lt_of_le hl h.size)).trans (h.same i hi hl)⟩

theorem RdO.sub {X O O' : Nat → Prop} {A D : World} (h : RdO X O A D) (hs : ∀ k, O' k → O k) : RdO X O' A D := ⟨h.os, h.tape, h.output, h.size, fun i hi hl => h.same i (hi.imp (hs i) id) hl⟩

theorem stp_put {O : Nat → Prop} {A : World} {l : Nat} (h : O l) (o : Obj) : Stp O A O (A.putObj l o) :=
  ⟨rfl, rfl, rfl, by simp, fun k _ hk => World.putObj_heap_other (by rintro rfl; exact hk h), fun k => ⟨.inl, fun h => h.elim id (fun ⟨h1, h2⟩ => by simp at h2; omega)⟩⟩

theorem rdo_put {X O : Nat → Prop} {A : World} {l : Nat} (h : ¬ O l) (hx : ¬ X l) (o : Obj) : RdO X O A (A.putObj l o) :=
  ⟨rfl, rfl, rfl, by simp, fun k hk _ => World.putObj_heap_other (by rintro rfl; rcases hk with hk | hk; exact h hk; exact hx hk)⟩

def bodyEndsO {α : Type} (X O : Nat → Prop) (I : (Nat → Prop) → List α → World → Prop) (Ix : Go.Code → (Nat → Prop) → List α → World → Prop) (xs : List α) (W : World) : Exit → Act → World → Prop
  | .normal, _, W' => RdO X O W W' ∧ I O xs W'
  | .ret, _, W' => RdO X O W W' ∧ Ix .ret O xs W'
  | .exit i, _, W' => RdO X O W W' ∧ Ix (.exit i) O xs W'
  | _, _, _ => False

/-- The iterator's word. -/
def TellsO {α : Type} (n : Nat) (P : Program) (g : Nat) (lb : Array Value) (encs : α → Array Value) (S Sp : List α → Prop) (N : Nat) (X : Nat → Prop) (w0 : World) : Prop :=
  ∀ (l : Nat) (J Jx : (Nat → Prop) → List α → World → Prop) (W : World), Below w0.heap.size w0 W → (∀ s, AbO (fun O => J O s)) → (∀ s, AbO (fun O => Jx O s)) →
    (∀ O pre x W1, J O pre W1 → (∀ k, O k → W.heap.size ≤ k ∧ k < W1.heap.size) → W.heap.size ≤ W1.heap.size → pre.length < N → YieldAt Fence.wide (n - 1) P l (encs x) W1 fun e W' =>
      (e = .returned (.bool true) ∧ J O (pre ++ [x]) W' ∧ RdO X O W1 W') ∨ (e = .returned (.bool false) ∧ Jx O (pre ++ [x]) W')) →
    J (fun _ => False) [] W →
    CallsIn Fence.wide n P g (#[.func (.yield l) #[] #[]] ++ lb) W fun e W' => (∃ v, e = .returned v) ∧ ((∃ xs O, S xs ∧ J O xs W') ∨ (∃ pre O, Sp pre ∧ Jx O pre W'))

set_option maxHeartbeats 800000 in
theorem range_ownO {P : Program} {n : Nat} {α : Type} {g : Operand} {ps : Array Tmp} {assign body : Go.Code} {Q : Exit → Act → World → Prop} {a : Act} {w : World} (h1 : 1 ≤ n)
    {gf : Nat} {lb : Array Value} (hg : a.eval g = .func (.func gf) #[] lb) (eg : ∀ args w, (callFunc gf args).run P w = .ok (.enter gf args) w)
    {encs : α → Array Value} {S Sp : List α → Prop} {N : Nat} {X : Nat → Prop} {w0 : World} (hX : ∀ k, X k → k < w0.heap.size) (hseq : TellsO (n - 1) P gf lb encs S Sp N X w0) (hb0 : Below w0.heap.size w0 w) (hps : ∀ x, (encs x).size = ps.size)
    (I : (Nat → Prop) → List α → World → Prop) (Ix : Go.Code → (Nat → Prop) → List α → World → Prop) (hI : ∀ s, AbO (fun O => I O s)) (hIx : ∀ c s, AbO (fun O => Ix c O s)) (h0 : I (fun _ => False) [] w) (Ax : α → Act)
    (hassign : ∀ (l : Nat) (x : α) (W : World) (K : Act → World → Prop), K (Ax x) W →
      assign.wpIn (Fence.wide.inRound l) (n - 1 - 1) P (Exit.then K (fun _ _ _ => False)) { tmps := (ps.zip (encs x)).foldl (fun t (p, v) => t.setIfInBounds p v) a.tmps, defers := [] } W)
    (hbody : ∀ (l : Nat) (O : Nat → Prop) (pre : List α) (x : α) (W : World), I O pre W → (∀ k, O k → w.heap.size ≤ k ∧ k < W.heap.size) → w.heap.size + 2 ≤ W.heap.size → pre.length < N → body.wpIn (Fence.wide.inRound l) (n - 1 - 1) P (bodyEndsO X O I Ix (pre ++ [x]) W) (Ax x) W)
    (hdone : ∀ (O : Nat → Prop) (xs : List α) (W : World), S xs → I O xs W → O w.heap.size → w.heap.size < W.heap.size → W.heap[w.heap.size]? = some (.deferred (some [])) → Q .normal { a with defers := { target := .collected w.heap.size, args := #[] } :: a.defers } W)
    (hstop : ∀ (c : Go.Code) (O : Nat → Prop) (pre : List α) (W : World), Sp pre → Ix c O pre W → O w.heap.size → w.heap.size < W.heap.size → W.heap[w.heap.size]? = some (.deferred (some [])) → c.wpIn Fence.wide n P Q { a with defers := { target := .collected w.heap.size, args := #[] } :: a.defers } W) :
    (Go.Code.rangeFunc g ps assign body).wpIn Fence.wide n P Q a w := by
  refine wpIn_rangeFunc (fun fn hfn => ?_)
  obtain ⟨R, hR⟩ : ∃ R : LoopState → Option Go.Code → Loop, R = fun st pe => { state := st, pending := pe, fn := fn, tmps := a.tmps, params := ps, assign := assign, body := body, defers := w.heap.size } := ⟨_, rfl⟩
  obtain ⟨V, hV⟩ : ∃ V, (w.alloc (.deferred (some []))).alloc (.loop (R .ready none)) = V := ⟨_, rfl⟩
  have sV : V.heap.size = w.heap.size + 2 := by rw [← hV]; simp
  have bV : Below w.heap.size w V := by rw [← hV]; exact ((Below.refl _ _).alloc (Nat.le_refl _) _).alloc (by simp) _
  have rV : V.heap[w.heap.size + 1]? = some (.loop (R .ready none)) := by
    rw [← hV]
    have := World.alloc_heap_new (w.alloc (.deferred (some []))) (.loop (R .ready none))
    rwa [World.size_alloc] at this
  have dV : V.heap[w.heap.size]? = some (.deferred (some [])) := by
    rw [← hV]
    exact (Below.heap_alloc _ _ _ (by simp)).trans (World.alloc_heap_new w _)
  refine ⟨w.heap.size + 1, [{ target := .collected w.heap.size, args := #[] }], V, { target := .fn (.func gf) lb, args := #[.func (.yield (w.heap.size + 1)) #[] #[]] }, V, gf, #[.func (.yield (w.heap.size + 1)) #[] #[]] ++ lb, V, ?e1, ?e2, fun _ _ => trivial, ?e3, fun _ => h1, ?e4⟩
  case e1 => rw [← hV, hR]; exact run_enterLoop_outer _ _ _ _ _
  case e2 =>
    simp only [resolve, hg]
    simp [go_sem]
  case e3 => simp [invoke, go_sem, eg]
  case e4 =>
    obtain ⟨Pl, hPl⟩ : ∃ Pl : (Nat → Prop) → Nat → Prop, Pl = fun O k => O k ∨ k = w.heap.size ∨ k = w.heap.size + 1 := ⟨_, rfl⟩
    have pd : ∀ O, Pl O w.heap.size := fun O => by rw [hPl]; exact .inr (.inl rfl)
    have pr : ∀ O, Pl O (w.heap.size + 1) := fun O => by rw [hPl]; exact .inr (.inr rfl)
    -- a step of the iterator's is one beside the loop's record
    have up : ∀ {O O' : Nat → Prop} {A C : World}, Stp O A O' C → Stp (Pl O) A (Pl O') C := fun h => ⟨h.os, h.tape, h.output, h.size, fun k hk hn => h.same k hk (fun ho => hn (by rw [hPl]; exact .inl ho)), fun k => by
      rw [hPl]
      simp only [h.own k]
      constructor
      · rintro ((h | h) | h)
        · exact .inl (.inl h)
        · exact .inr h
        · exact .inl (.inr h)
      · rintro ((h | h) | h)
        · exact .inl (.inl h)
        · exact .inr h
        · exact .inl (.inr h)⟩
    have ab : ∀ (T : (Nat → Prop) → World → Prop) (o1 : Obj), AbO T → AbO (fun O W => T (Pl O) W ∧ W.heap[w.heap.size + 1]? = some o1 ∧ W.heap[w.heap.size]? = some (.deferred (some [])) ∧ ∀ k, O k → w.heap.size + 2 ≤ k) := by
      rintro T o1 hT O O' A C ⟨t, r, d, hO⟩ h
      have l1 : w.heap.size + 1 < A.heap.size := (Array.getElem?_eq_some_iff.1 r).1
      refine ⟨hT _ _ _ _ t (up h), (h.same _ l1 (fun ho => by have := hO _ ho; omega)).trans r, (h.same _ (by omega) (fun ho => by have := hO _ ho; omega)).trans d, fun k hk => ?_⟩
      rcases (h.own k).1 hk with h | h
      · exact hO k h
      · omega
    refine (hseq (w.heap.size + 1)
      (fun O pre W => I (Pl O) pre W ∧ W.heap[w.heap.size + 1]? = some (.loop (R .ready none)) ∧ W.heap[w.heap.size]? = some (.deferred (some [])) ∧ ∀ k, O k → w.heap.size + 2 ≤ k)
      (fun O pre W => ∃ c, Ix c (Pl O) pre W ∧ W.heap[w.heap.size + 1]? = some (.loop (R .done (some c))) ∧ W.heap[w.heap.size]? = some (.deferred (some [])) ∧ ∀ k, O k → w.heap.size + 2 ≤ k)
      V (hb0.trans (bV.mono hb0.size))
      (fun s => ab (fun O => I O s) _ (hI s))
      (fun s O O' A C ⟨c, h⟩ hs => ⟨c, ab (fun O => Ix c O s) _ (hIx c s) O O' A C h hs⟩)
      ?round ⟨?first, rV, dV, fun k hk => hk.elim⟩).mono ?behind
    case first =>
      refine hI [] _ _ _ _ h0 ⟨bV.os, bV.tape, bV.output, bV.size, fun k hk _ => bV.block k hk, fun k => ?_⟩
      rw [hPl, sV]
      constructor
      · rintro (h | h | h)
        · exact h.elim
        · exact .inr ⟨by omega, by omega⟩
        · exact .inr ⟨by omega, by omega⟩
      · rintro (h | ⟨h, h'⟩)
        · exact h.elim
        · exact .inr (by omega)
    case round =>
      rintro O pre x W ⟨hi, hr, hd, hO⟩ hOk hsz hlen
      have lt : w.heap.size + 1 < W.heap.size := (Array.getElem?_eq_some_iff.1 hr).1
      have hy := run_yield (P := P) (args := encs x) hr (by rw [hR]; exact hps x)
      rw [hR] at hy
      refine ⟨fn, _, assign, body, hy, roundIn_of_wpIn hfn (hassign _ x W _ ⟨_, run_beginRound hr (by rw [hR]), ?_⟩)⟩
      obtain ⟨U, hU⟩ : ∃ U, W.putObj (w.heap.size + 1) (.loop { R .ready none with state := .busy }) = U := ⟨_, rfl⟩
      rw [hU]
      have nX : ¬ X (w.heap.size + 1) := fun h => by have := hX _ h; have := hb0.size; omega
      have nO : ¬ O (w.heap.size + 1) := fun h => by have := hO _ h; omega
      have uU : RdO X O W U := hU ▸ rdo_put nO nX _
      have iU : I (Pl O) pre U := hU ▸ hI pre _ _ _ _ hi (stp_put (pr O) _)
      have rU : U.heap[w.heap.size + 1]? = some (.loop { R .ready none with state := .busy }) := by rw [← hU]; exact World.putObj_heap_same lt
      have dU : U.heap[w.heap.size]? = some (.deferred (some [])) := by rw [← hU]; exact (World.putObj_heap_other (by omega)).trans hd
      have zU : W.heap.size ≤ U.heap.size := uU.size
      refine wpIn_mono (hbody _ (Pl O) pre x U iU (fun k hk => ?_) (by omega) hlen) ?_
      · rw [hPl] at hk
        rcases hk with h | h | h
        · have := hOk k h; omega
        · omega
        · omega
      have sub : ∀ k, O k → Pl O k := fun k h => by rw [hPl]; exact .inl h
      have shut : ∀ (j : Option Go.Code) (W3 : World), RdO X (Pl O) U W3 →
          (Instr.endRound (w.heap.size + 1) j).run P W3 = .ok (.bool j.isNone) (W3.putObj (w.heap.size + 1) (.loop (R (if j.isNone then .ready else .done) j))) ∧
          (W3.putObj (w.heap.size + 1) (.loop (R (if j.isNone then .ready else .done) j))).heap[w.heap.size + 1]? = some (.loop (R (if j.isNone then .ready else .done) j)) ∧
          (W3.putObj (w.heap.size + 1) (.loop (R (if j.isNone then .ready else .done) j))).heap[w.heap.size]? = some (.deferred (some [])) ∧
          Stp (Pl O) W3 (Pl O) (W3.putObj (w.heap.size + 1) (.loop (R (if j.isNone then .ready else .done) j))) ∧ RdO X O W3 (W3.putObj (w.heap.size + 1) (.loop (R (if j.isNone then .ready else .done) j))) := fun j W3 h3 => by
        have r3 : W3.heap[w.heap.size + 1]? = some (.loop { R .ready none with state := .busy }) := (h3.same _ (Or.inl (pr O)) (by omega)).trans rU
        have d3 : W3.heap[w.heap.size]? = some (.deferred (some [])) := (h3.same _ (Or.inl (pd O)) (by omega)).trans dU
        have lt3 : w.heap.size + 1 < W3.heap.size := (Array.getElem?_eq_some_iff.1 r3).1
        have := run_endRound (P := P) j r3
        rw [hR] at this ⊢
        exact ⟨this, World.putObj_heap_same lt3, (World.putObj_heap_other (by omega)).trans d3, stp_put (pr O) _, rdo_put nO nX _⟩
      rintro e a3 W3 hp
      cases e with
      | normal =>
        obtain ⟨h3, i3⟩ := hp
        obtain ⟨s1, s2, s3, s4, s5⟩ := shut none W3 h3
        exact ⟨_, _, s1, .inl ⟨rfl, ⟨hI _ _ _ _ _ i3 s4, s2, s3, hO⟩, (uU.trans (h3.sub sub)).trans s5⟩⟩
      | ret =>
        obtain ⟨h3, i3⟩ := hp
        obtain ⟨s1, s2, s3, s4, s5⟩ := shut (some .ret) W3 h3
        exact ⟨_, _, s1, .inr ⟨rfl, .ret, hIx _ _ _ _ _ _ i3 s4, s2, s3, hO⟩⟩
      | exit i =>
        obtain ⟨h3, i3⟩ := hp
        obtain ⟨s1, s2, s3, s4, s5⟩ := shut (some (.exit i)) W3 h3
        exact ⟨_, _, s1, .inr ⟨rfl, .exit i, hIx _ _ _ _ _ _ i3 s4, s2, s3, hO⟩⟩
      | goto i => exact hp.elim
      | panic ch => exact hp.elim
      | outgrown => exact hp.elim
    case behind =>
      rintro e W2 ⟨⟨v, rfl⟩, (⟨xs, O, hS, hi, hr, hd, hO⟩ | ⟨pre, O, hSp, c, hi, hr, hd, hO⟩)⟩
      · have lt : w.heap.size + 1 < W2.heap.size := (Array.getElem?_eq_some_iff.1 hr).1
        have := run_endLoop (P := P) hr (by rw [hR]; simp)
        rw [hR] at this
        exact ⟨none, _, this, hdone (Pl O) xs _ hS (hI _ _ _ _ _ hi (stp_put (pr O) _)) (pd O) (by simp; omega) ((World.putObj_heap_other (by omega)).trans hd)⟩
      · have lt : w.heap.size + 1 < W2.heap.size := (Array.getElem?_eq_some_iff.1 hr).1
        have := run_endLoop (P := P) hr (by rw [hR]; simp)
        rw [hR] at this
        exact ⟨some c, _, this, hstop c (Pl O) pre _ hSp (hIx _ _ _ _ _ _ hi (stp_put (pr O) _)) (pd O) (by simp; omega) ((World.putObj_heap_other (by omega)).trans hd)⟩
end

section
set_option linter.unusedVariables false
set_option linter.unusedSimpArgs false

open Go Go.RowKit

/-- The iterator's word; V tells what may come behind what has come. -/
def TellsV {α : Type} (n : Nat) (P : Program) (g : Nat) (lb : Array Value) (encs : α → Array Value) (V : List α → α → Prop) (S Sp : List α → Prop) (N : Nat) (X : Nat → Prop) (w0 : World) : Prop :=
  ∀ (l : Nat) (J Jx : (Nat → Prop) → List α → World → Prop) (W : World), Below w0.heap.size w0 W → (∀ s, AbO (fun O => J O s)) → (∀ s, AbO (fun O => Jx O s)) →
    (∀ O pre x W1, J O pre W1 → V pre x → (∀ k, O k → W.heap.size ≤ k ∧ k < W1.heap.size) → W.heap.size ≤ W1.heap.size → pre.length < N → YieldAt Fence.wide (n - 1) P l (encs x) W1 fun e W' =>
      (e = .returned (.bool true) ∧ J O (pre ++ [x]) W' ∧ RdO X O W1 W') ∨ (e = .returned (.bool false) ∧ Jx O (pre ++ [x]) W')) →
    J (fun _ => False) [] W →
    CallsIn Fence.wide n P g (#[.func (.yield l) #[] #[]] ++ lb) W fun e W' => (∃ v, e = .returned v) ∧ ((∃ xs O, S xs ∧ J O xs W') ∨ (∃ pre O, Sp pre ∧ Jx O pre W'))

set_option maxHeartbeats 800000 in
theorem range_ownV {P : Program} {n : Nat} {α : Type} {g : Operand} {ps : Array Tmp} {assign body : Go.Code} {Q : Exit → Act → World → Prop} {a : Act} {w : World} (h1 : 1 ≤ n)
    {gf : Nat} {lb : Array Value} (hg : a.eval g = .func (.func gf) #[] lb) (eg : ∀ args w, (callFunc gf args).run P w = .ok (.enter gf args) w)
    {encs : α → Array Value} {V : List α → α → Prop} {S Sp : List α → Prop} {N : Nat} {X : Nat → Prop} {w0 : World} (hX : ∀ k, X k → k < w0.heap.size) (hseq : TellsV (n - 1) P gf lb encs V S Sp N X w0) (hb0 : Below w0.heap.size w0 w) (hps : ∀ x, (encs x).size = ps.size)
    (I : (Nat → Prop) → List α → World → Prop) (Ix : Go.Code → (Nat → Prop) → List α → World → Prop) (hI : ∀ s, AbO (fun O => I O s)) (hIx : ∀ c s, AbO (fun O => Ix c O s)) (hIe : ∀ O s A C, I O s A → Ext A C → I O s C) (h0 : I (fun _ => False) [] w) (Wx : α → World → World) (hWx : ∀ x W, Ext W (Wx x W)) (Ax : α → World → Act)
    (hassign : ∀ (l : Nat) (x : α) (W : World) (K : Act → World → Prop), K (Ax x W) (Wx x W) →
      assign.wpIn (Fence.wide.inRound l) (n - 1 - 1) P (Exit.then K (fun _ _ _ => False)) { tmps := (ps.zip (encs x)).foldl (fun t (p, v) => t.setIfInBounds p v) a.tmps, defers := [] } W)
    (hbody : ∀ (l : Nat) (O : Nat → Prop) (pre : List α) (x : α) (W0 W : World), I O pre W → V pre x → (∀ k, O k → w.heap.size ≤ k ∧ k < W0.heap.size) → w.heap.size + 2 ≤ W0.heap.size → (∀ k, k ≠ w.heap.size + 1 → W.heap[k]? = (Wx x W0).heap[k]?) → W.heap.size = (Wx x W0).heap.size → pre.length < N → body.wpIn (Fence.wide.inRound l) (n - 1 - 1) P (bodyEndsO X O I Ix (pre ++ [x]) W) (Ax x W0) W)
    (hdone : ∀ (O : Nat → Prop) (xs : List α) (W : World), S xs → I O xs W → O w.heap.size → w.heap.size < W.heap.size → W.heap[w.heap.size]? = some (.deferred (some [])) → Q .normal { a with defers := { target := .collected w.heap.size, args := #[] } :: a.defers } W)
    (hstop : ∀ (c : Go.Code) (O : Nat → Prop) (pre : List α) (W : World), Sp pre → Ix c O pre W → O w.heap.size → w.heap.size < W.heap.size → W.heap[w.heap.size]? = some (.deferred (some [])) → c.wpIn Fence.wide n P Q { a with defers := { target := .collected w.heap.size, args := #[] } :: a.defers } W) :
    (Go.Code.rangeFunc g ps assign body).wpIn Fence.wide n P Q a w := by
  refine wpIn_rangeFunc (fun fn hfn => ?_)
  obtain ⟨R, hR⟩ : ∃ R : LoopState → Option Go.Code → Loop, R = fun st pe => { state := st, pending := pe, fn := fn, tmps := a.tmps, params := ps, assign := assign, body := body, defers := w.heap.size } := ⟨_, rfl⟩
  obtain ⟨VV, hV⟩ : ∃ VV, (w.alloc (.deferred (some []))).alloc (.loop (R .ready none)) = VV := ⟨_, rfl⟩
  have sV : VV.heap.size = w.heap.size + 2 := by rw [← hV]; simp
  have bV : Below w.heap.size w VV := by rw [← hV]; exact ((Below.refl _ _).alloc (Nat.le_refl _) _).alloc (by simp) _
  have rV : VV.heap[w.heap.size + 1]? = some (.loop (R .ready none)) := by
    rw [← hV]
    have := World.alloc_heap_new (w.alloc (.deferred (some []))) (.loop (R .ready none))
    rwa [World.size_alloc] at this
  have dV : VV.heap[w.heap.size]? = some (.deferred (some [])) := by
    rw [← hV]
    exact (Below.heap_alloc _ _ _ (by simp)).trans (World.alloc_heap_new w _)
  refine ⟨w.heap.size + 1, [{ target := .collected w.heap.size, args := #[] }], VV, { target := .fn (.func gf) lb, args := #[.func (.yield (w.heap.size + 1)) #[] #[]] }, VV, gf, #[.func (.yield (w.heap.size + 1)) #[] #[]] ++ lb, VV, ?e1, ?e2, fun _ _ => trivial, ?e3, fun _ => h1, ?e4⟩
  case e1 => rw [← hV, hR]; exact run_enterLoop_outer _ _ _ _ _
  case e2 =>
    simp only [resolve, hg]
    simp [go_sem]
  case e3 => simp [invoke, go_sem, eg]
  case e4 =>
    obtain ⟨Pl, hPl⟩ : ∃ Pl : (Nat → Prop) → Nat → Prop, Pl = fun O k => O k ∨ k = w.heap.size ∨ k = w.heap.size + 1 := ⟨_, rfl⟩
    have pd : ∀ O, Pl O w.heap.size := fun O => by rw [hPl]; exact .inr (.inl rfl)
    have pr : ∀ O, Pl O (w.heap.size + 1) := fun O => by rw [hPl]; exact .inr (.inr rfl)
    -- a step of the iterator's is one beside the loop's record
    have up : ∀ {O O' : Nat → Prop} {A C : World}, Stp O A O' C → Stp (Pl O) A (Pl O') C := fun h => ⟨h.os, h.tape, h.output, h.size, fun k hk hn => h.same k hk (fun ho => hn (by rw [hPl]; exact .inl ho)), fun k => by
      rw [hPl]
      simp only [h.own k]
      constructor
      · rintro ((h | h) | h)
        · exact .inl (.inl h)
        · exact .inr h
        · exact .inl (.inr h)
      · rintro ((h | h) | h)
        · exact .inl (.inl h)
        · exact .inr h
        · exact .inl (.inr h)⟩
    have ab : ∀ (T : (Nat → Prop) → World → Prop) (o1 : Obj), AbO T → AbO (fun O W => T (Pl O) W ∧ W.heap[w.heap.size + 1]? = some o1 ∧ W.heap[w.heap.size]? = some (.deferred (some [])) ∧ ∀ k, O k → w.heap.size + 2 ≤ k) := by
      rintro T o1 hT O O' A C ⟨t, r, d, hO⟩ h
      have l1 : w.heap.size + 1 < A.heap.size := (Array.getElem?_eq_some_iff.1 r).1
      refine ⟨hT _ _ _ _ t (up h), (h.same _ l1 (fun ho => by have := hO _ ho; omega)).trans r, (h.same _ (by omega) (fun ho => by have := hO _ ho; omega)).trans d, fun k hk => ?_⟩
      rcases (h.own k).1 hk with h | h
      · exact hO k h
      · omega
    refine (hseq (w.heap.size + 1)
      (fun O pre W => I (Pl O) pre W ∧ W.heap[w.heap.size + 1]? = some (.loop (R .ready none)) ∧ W.heap[w.heap.size]? = some (.deferred (some [])) ∧ ∀ k, O k → w.heap.size + 2 ≤ k)
      (fun O pre W => ∃ c, Ix c (Pl O) pre W ∧ W.heap[w.heap.size + 1]? = some (.loop (R .done (some c))) ∧ W.heap[w.heap.size]? = some (.deferred (some [])) ∧ ∀ k, O k → w.heap.size + 2 ≤ k)
      VV (hb0.trans (bV.mono hb0.size))
      (fun s => ab (fun O => I O s) _ (hI s))
      (fun s O O' A C ⟨c, h⟩ hs => ⟨c, ab (fun O => Ix c O s) _ (hIx c s) O O' A C h hs⟩)
      ?round ⟨?first, rV, dV, fun k hk => hk.elim⟩).mono ?behind
    case first =>
      refine hI [] _ _ _ _ h0 ⟨bV.os, bV.tape, bV.output, bV.size, fun k hk _ => bV.block k hk, fun k => ?_⟩
      rw [hPl, sV]
      constructor
      · rintro (h | h | h)
        · exact h.elim
        · exact .inr ⟨by omega, by omega⟩
        · exact .inr ⟨by omega, by omega⟩
      · rintro (h | ⟨h, h'⟩)
        · exact h.elim
        · exact .inr (by omega)
    case round =>
      rintro O pre x W ⟨hi, hr, hd, hO⟩ hVx hOk hsz hlen
      have lt : w.heap.size + 1 < W.heap.size := (Array.getElem?_eq_some_iff.1 hr).1
      have hy := run_yield (P := P) (args := encs x) hr (by rw [hR]; exact hps x)
      rw [hR] at hy
      have hx1 := hWx x W
      have hr1 : (Wx x W).heap[w.heap.size + 1]? = some (.loop (R .ready none)) := (Below.block hx1 _ lt).trans hr
      have lt1 : w.heap.size + 1 < (Wx x W).heap.size := (Array.getElem?_eq_some_iff.1 hr1).1
      have hd1 : (Wx x W).heap[w.heap.size]? = some (.deferred (some [])) := (Below.block hx1 _ (by omega)).trans hd
      refine ⟨fn, _, assign, body, hy, roundIn_of_wpIn hfn (hassign _ x W _ ⟨_, run_beginRound hr1 (by rw [hR]), ?_⟩)⟩
      obtain ⟨U, hU⟩ : ∃ U, (Wx x W).putObj (w.heap.size + 1) (.loop { R .ready none with state := .busy }) = U := ⟨_, rfl⟩
      rw [hU]
      have nX : ¬ X (w.heap.size + 1) := fun h => by have := hX _ h; have := hb0.size; omega
      have nO : ¬ O (w.heap.size + 1) := fun h => by have := hO _ h; omega
      have uU : RdO X O W U := RdO.trans ⟨hx1.os, hx1.tape, hx1.output, hx1.size, fun k _ hk => hx1.block k hk⟩ (hU ▸ rdo_put nO nX _)
      have iU : I (Pl O) pre U := hU ▸ hI pre _ _ _ _ (hIe _ _ _ _ hi hx1) (stp_put (pr O) _)
      have rU : U.heap[w.heap.size + 1]? = some (.loop { R .ready none with state := .busy }) := by rw [← hU]; exact World.putObj_heap_same lt1
      have dU : U.heap[w.heap.size]? = some (.deferred (some [])) := by rw [← hU]; exact (World.putObj_heap_other (by omega)).trans hd1
      have zU : W.heap.size ≤ U.heap.size := uU.size
      refine wpIn_mono (hbody _ (Pl O) pre x W U iU hVx (fun k hk => ?_) (by omega) (fun k hk => by rw [← hU]; exact World.putObj_heap_other (fun e => hk e)) (by rw [← hU]; simp) hlen) ?_
      · rw [hPl] at hk
        rcases hk with h | h | h
        · have := hOk k h; omega
        · omega
        · omega
      have sub : ∀ k, O k → Pl O k := fun k h => by rw [hPl]; exact .inl h
      have shut : ∀ (j : Option Go.Code) (W3 : World), RdO X (Pl O) U W3 →
          (Instr.endRound (w.heap.size + 1) j).run P W3 = .ok (.bool j.isNone) (W3.putObj (w.heap.size + 1) (.loop (R (if j.isNone then .ready else .done) j))) ∧
          (W3.putObj (w.heap.size + 1) (.loop (R (if j.isNone then .ready else .done) j))).heap[w.heap.size + 1]? = some (.loop (R (if j.isNone then .ready else .done) j)) ∧
          (W3.putObj (w.heap.size + 1) (.loop (R (if j.isNone then .ready else .done) j))).heap[w.heap.size]? = some (.deferred (some [])) ∧
          Stp (Pl O) W3 (Pl O) (W3.putObj (w.heap.size + 1) (.loop (R (if j.isNone then .ready else .done) j))) ∧ RdO X O W3 (W3.putObj (w.heap.size + 1) (.loop (R (if j.isNone then .ready else .done) j))) := fun j W3 h3 => by
        have r3 : W3.heap[w.heap.size + 1]? = some (.loop { R .ready none with state := .busy }) := (h3.same _ (Or.inl (pr O)) (by omega)).trans rU
        have d3 : W3.heap[w.heap.size]? = some (.deferred (some [])) := (h3.same _ (Or.inl (pd O)) (by omega)).trans dU
        have lt3 : w.heap.size + 1 < W3.heap.size := (Array.getElem?_eq_some_iff.1 r3).1
        have := run_endRound (P := P) j r3
        rw [hR] at this ⊢
        exact ⟨this, World.putObj_heap_same lt3, (World.putObj_heap_other (by omega)).trans d3, stp_put (pr O) _, rdo_put nO nX _⟩
      rintro e a3 W3 hp
      cases e with
      | normal =>
        obtain ⟨h3, i3⟩ := hp
        obtain ⟨s1, s2, s3, s4, s5⟩ := shut none W3 h3
        exact ⟨_, _, s1, .inl ⟨rfl, ⟨hI _ _ _ _ _ i3 s4, s2, s3, hO⟩, (uU.trans (h3.sub sub)).trans s5⟩⟩
      | ret =>
        obtain ⟨h3, i3⟩ := hp
        obtain ⟨s1, s2, s3, s4, s5⟩ := shut (some .ret) W3 h3
        exact ⟨_, _, s1, .inr ⟨rfl, .ret, hIx _ _ _ _ _ _ i3 s4, s2, s3, hO⟩⟩
      | exit i =>
        obtain ⟨h3, i3⟩ := hp
        obtain ⟨s1, s2, s3, s4, s5⟩ := shut (some (.exit i)) W3 h3
        exact ⟨_, _, s1, .inr ⟨rfl, .exit i, hIx _ _ _ _ _ _ i3 s4, s2, s3, hO⟩⟩
      | goto i => exact hp.elim
      | panic ch => exact hp.elim
      | outgrown => exact hp.elim
    case behind =>
      rintro e W2 ⟨⟨v, rfl⟩, (⟨xs, O, hS, hi, hr, hd, hO⟩ | ⟨pre, O, hSp, c, hi, hr, hd, hO⟩)⟩
      · have lt : w.heap.size + 1 < W2.heap.size := (Array.getElem?_eq_some_iff.1 hr).1
        have := run_endLoop (P := P) hr (by rw [hR]; simp)
        rw [hR] at this
        exact ⟨none, _, this, hdone (Pl O) xs _ hS (hI _ _ _ _ _ hi (stp_put (pr O) _)) (pd O) (by simp; omega) ((World.putObj_heap_other (by omega)).trans hd)⟩
      · have lt : w.heap.size + 1 < W2.heap.size := (Array.getElem?_eq_some_iff.1 hr).1
        have := run_endLoop (P := P) hr (by rw [hR]; simp)
        rw [hR] at this
        exact ⟨some c, _, this, hstop c (Pl O) pre _ hSp (hIx _ _ _ _ _ _ hi (stp_put (pr O) _)) (pd O) (by simp; omega) ((World.putObj_heap_other (by omega)).trans hd)⟩
end

end Go.Proofs.YtmcdikbcmikihaaDoor
