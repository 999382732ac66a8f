/- Bytes read as trees, in plain numbers: what the model's recursion and the program's steps tell. Walk: slices.Reverse over bytes of one's own. Walks: IntBytes of the model and of the program. Walks: a number's digits by a base: inBase, oidNumberBytes of the program; l7Seven of the model. Walks: the bytes of a length, of both. -/
import Derived.Test.YtmcdikbcmikihaaDoorSq05
import Derived.Test.YtmcdikbcmikihaaDoorChecked
import Derived.Test.YtmcdikbcmikihaaDoorSq01
import Derived.Test.YtmcdikbcmikihaaDoorSq02
namespace Go.Proofs.YtmcdikbcmikihaaDoor

section
set_option linter.unusedVariables false
set_option linter.unusedSimpArgs false

/-- A length at at + 1, within e: the length, where what follows starts, and a code (0 well, 2 short, 4 no length). -/
def lnR (f : Nat → Int) (at' e : Nat) : Nat × Nat × Int :=
  if e ≤ at' + 1 then (0, 0, 2)
  else if f (at' + 1) < 128 then ((f (at' + 1)).toNat, at' + 2, 0)
  else if f (at' + 1) = 128 ∨ 130 < f (at' + 1) then (0, 0, 4)
  else if (e : Int) ≤ at' + 1 + (f (at' + 1) - 128) then (0, 0, 2)
  else if f (at' + 1) = 129 then (if f (at' + 2) < 128 then (0, 0, 4) else ((f (at' + 2)).toNat, at' + 3, 0))
  else if 256 * f (at' + 2) + f (at' + 3) < 256 then (0, 0, 4) else ((256 * f (at' + 2) + f (at' + 3)).toNat, at' + 4, 0)

/-- What an item's first bytes say: a code and its place; 0 where they are well. -/
def hdC (f : Nat → Int) (at' e d : Nat) : Int × Int :=
  if e ≤ at' then (2, at')
  else if f at' % 32 = 31 then (3, at')
  else if 12 < d then (6, at')
  else if (lnR f at' e).2.2 = 2 then (2, at')
  else if (lnR f at' e).2.2 = 4 then (4, at' + 1)
  else if e < (lnR f at' e).2.1 + (lnR f at' e).1 then (2, at')
  else (0, 0)

def hdS (f : Nat → Int) (at' e : Nat) : Nat := (lnR f at' e).2.1

def hdE (f : Nat → Int) (at' e : Nat) : Nat := (lnR f at' e).2.1 + (lnR f at' e).1

def mdT (t : Int) : Bool := decide (t / 32 % 2 = 1)

/-- An item's head: its Tag, where what follows its length starts and ends, and how many are around. -/
structure Hed where
  tag : Int
  st : Nat
  en : Nat
  ar : Nat

def hdOf (f : Nat → Int) (at' e d : Nat) : Hed := ⟨f at', hdS f at' e, hdE f at' e, d⟩

/-- The item of a head, without kids. -/
def itH (f : Nat → Int) (h : Hed) : Ic := ⟨h.tag, 0, if mdT h.tag then [] else (List.range (h.en - h.st)).map (fun i => f (h.st + i))⟩

/-- What is read: heads, items, the place behind, or a code (not 0) and its place. -/
structure Rdr where
  hs : List Hed
  its : List Ic
  nx : Nat
  code : Int
  pl : Int

/-- Kids one behind the other, up to e. -/
def rdK (rd : Nat → Rdr) (e : Nat) : Nat → Nat → Rdr × Nat
  | 0, a => (⟨[], [], a, 0, 0⟩, 0)
  | m + 1, a =>
    if e ≤ a then (⟨[], [], a, 0, 0⟩, 0)
    else if (rd a).code ≠ 0 then (⟨[], [], a, (rd a).code, (rd a).pl⟩, 0)
    else if (rdK rd e m (rd a).nx).1.code ≠ 0 then (⟨[], [], a, (rdK rd e m (rd a).nx).1.code, (rdK rd e m (rd a).nx).1.pl⟩, 0)
    else (⟨(rd a).hs ++ (rdK rd e m (rd a).nx).1.hs, (rd a).its ++ (rdK rd e m (rd a).nx).1.its, (rdK rd e m (rd a).nx).1.nx, 0, 0⟩, (rdK rd e m (rd a).nx).2 + 1)

/-- The model's reader: fuel, at, end, depth. -/
def rdT (f : Nat → Int) : Nat → Nat → Nat → Nat → Rdr
  | 0, a, e, d => ⟨[], [], a, 6, a⟩
  | k + 1, a, e, d =>
    if (hdC f a e d).1 ≠ 0 then ⟨[], [], a, (hdC f a e d).1, (hdC f a e d).2⟩
    else if mdT (f a) = false then ⟨[hdOf f a e d], [itH f (hdOf f a e d)], hdE f a e, 0, 0⟩
    else if (rdK (fun x => rdT f k x (hdE f a e) (d + 1)) (hdE f a e) (hdE f a e - hdS f a e) (hdS f a e)).1.code ≠ 0 then
      ⟨[], [], a, (rdK (fun x => rdT f k x (hdE f a e) (d + 1)) (hdE f a e) (hdE f a e - hdS f a e) (hdS f a e)).1.code, (rdK (fun x => rdT f k x (hdE f a e) (d + 1)) (hdE f a e) (hdE f a e - hdS f a e) (hdS f a e)).1.pl⟩
    else ⟨hdOf f a e d :: (rdK (fun x => rdT f k x (hdE f a e) (d + 1)) (hdE f a e) (hdE f a e - hdS f a e) (hdS f a e)).1.hs,
      ⟨f a, ((rdK (fun x => rdT f k x (hdE f a e) (d + 1)) (hdE f a e) (hdE f a e - hdS f a e) (hdS f a e)).2 : Int), []⟩ :: (rdK (fun x => rdT f k x (hdE f a e) (d + 1)) (hdE f a e) (hdE f a e - hdS f a e) (hdS f a e)).1.its, hdE f a e, 0, 0⟩

/-- Ends that stand behind a place: none is left but the last. -/
def beh (a : Nat) : List Nat → Option (List Nat)
  | [] => none
  | [_] => none
  | e :: e2 :: r => if a < e then some (e :: e2 :: r) else beh a (e2 :: r)

/-- What the program's steps tell from a place on, within these ends. -/
def RunL (f : Nat → Int) : List Hed → Nat → List Nat → Int → Int → Prop
  | [], a, es, c, p => ∃ e r, es = e :: r ∧ (hdC f a e r.length).1 ≠ 0 ∧ c = (hdC f a e r.length).1 ∧ p = (hdC f a e r.length).2
  | h :: H, a, es, c, p => ∃ e r, es = e :: r ∧ (hdC f a e r.length).1 = 0 ∧ h = hdOf f a e r.length ∧
      ((beh (if mdT (f a) then hdS f a e else hdE f a e) (if mdT (f a) then hdE f a e :: e :: r else e :: r) = none ∧ H = [] ∧ c = 0 ∧ p = 0) ∨ ∃ es', beh (if mdT (f a) then hdS f a e else hdE f a e) (if mdT (f a) then hdE f a e :: e :: r else e :: r) = some es' ∧ RunL f H (if mdT (f a) then hdS f a e else hdE f a e) es' c p)

def Run (f : Nat → Int) (a : Nat) (es : List Nat) (H : List Hed) (c p : Int) : Prop := RunL f H a es c p

theorem Run.bad {f : Nat → Int} {a e : Nat} {r : List Nat} (h : (hdC f a e r.length).1 ≠ 0) : Run f a (e :: r) [] (hdC f a e r.length).1 (hdC f a e r.length).2 := ⟨e, r, rfl, h, rfl, rfl⟩

theorem Run.last {f : Nat → Int} {a e : Nat} {r : List Nat} (h : (hdC f a e r.length).1 = 0) (k : beh (if mdT (f a) then hdS f a e else hdE f a e) (if mdT (f a) then hdE f a e :: e :: r else e :: r) = none) : Run f a (e :: r) [hdOf f a e r.length] 0 0 := ⟨e, r, rfl, h, rfl, .inl ⟨k, rfl, rfl, rfl⟩⟩

theorem Run.more {f : Nat → Int} {a e : Nat} {r es : List Nat} {H : List Hed} {c p : Int} (h : (hdC f a e r.length).1 = 0) (k : beh (if mdT (f a) then hdS f a e else hdE f a e) (if mdT (f a) then hdE f a e :: e :: r else e :: r) = some es) (q : Run f (if mdT (f a) then hdS f a e else hdE f a e) es H c p) : Run f a (e :: r) (hdOf f a e r.length :: H) c p := ⟨e, r, rfl, h, rfl, .inr ⟨es, k, q⟩⟩

/-- Going on behind a place. -/
def Goes (f : Nat → Int) (a : Nat) (es : List Nat) (H : List Hed) (c p : Int) : Prop :=
  (beh a es = none ∧ H = [] ∧ c = 0 ∧ p = 0) ∨ ∃ es', beh a es = some es' ∧ Run f a es' H c p

theorem Run.step {f : Nat → Int} {a e : Nat} {r : List Nat} {H : List Hed} {c p : Int} (h : (hdC f a e r.length).1 = 0) (k : Goes f (if mdT (f a) then hdS f a e else hdE f a e) (if mdT (f a) then hdE f a e :: e :: r else e :: r) H c p) : Run f a (e :: r) (hdOf f a e r.length :: H) c p := by
  rcases k with ⟨h1, rfl, rfl, rfl⟩ | ⟨es', h1, h2⟩
  · exact Run.last h h1
  · exact Run.more h h1 h2

/-- Where the place is behind the innermost end, that end goes. -/
theorem Goes.pop {f : Nat → Int} {a e : Nat} {r : List Nat} {H : List Hed} {c p : Int} (he : e ≤ a) (hr : r ≠ []) (h : Goes f a r H c p) : Goes f a (e :: r) H c p := by
  cases r with
  | nil => exact absurd rfl hr
  | cons e2 r =>
    have hb : beh a (e :: e2 :: r) = beh a (e2 :: r) := by rw [beh, if_neg (by omega)]
    unfold Goes
    rw [hb]
    exact h

theorem Goes.at' {f : Nat → Int} {a e : Nat} {r : List Nat} {H : List Hed} {c p : Int} (he : a < e) (hr : r ≠ []) (h : Run f a (e :: r) H c p) : Goes f a (e :: r) H c p := by
  cases r with
  | nil => exact absurd rfl hr
  | cons e2 r => exact .inr ⟨_, by rw [beh, if_pos he], h⟩

theorem lnR_well {f : Nat → Int} {a e : Nat} (h2 : (lnR f a e).2.2 ≠ 2) (h4 : (lnR f a e).2.2 ≠ 4) : (lnR f a e).2.2 = 0 ∧ a + 2 ≤ (lnR f a e).2.1 := by
  unfold lnR at *
  by_cases c1 : e ≤ a + 1
  · rw [if_pos c1] at h2; exact absurd rfl h2
  rw [if_neg c1] at h2 h4 ⊢
  by_cases c2 : f (a + 1) < 128
  · rw [if_pos c2]; exact ⟨rfl, Nat.le_refl _⟩
  rw [if_neg c2] at h2 h4 ⊢
  by_cases c3 : f (a + 1) = 128 ∨ 130 < f (a + 1)
  · rw [if_pos c3] at h4; exact absurd rfl h4
  rw [if_neg c3] at h2 h4 ⊢
  by_cases c4 : (e : Int) ≤ a + 1 + (f (a + 1) - 128)
  · rw [if_pos c4] at h2; exact absurd rfl h2
  rw [if_neg c4] at h2 h4 ⊢
  by_cases c5 : f (a + 1) = 129
  · rw [if_pos c5] at h2 h4 ⊢
    by_cases c6 : f (a + 2) < 128
    · rw [if_pos c6] at h4; exact absurd rfl h4
    · rw [if_neg c6]; exact ⟨rfl, Nat.le_succ _⟩
  · rw [if_neg c5] at h2 h4 ⊢
    by_cases c6 : 256 * f (a + 2) + f (a + 3) < 256
    · rw [if_pos c6] at h4; exact absurd rfl h4
    · rw [if_neg c6]; exact ⟨rfl, by show a + 2 ≤ a + 4; omega⟩

theorem hdC_ok {f : Nat → Int} {a e d : Nat} (h : (hdC f a e d).1 = 0) : a < e ∧ f a % 32 ≠ 31 ∧ d ≤ 12 ∧ (lnR f a e).2.2 = 0 ∧ hdE f a e ≤ e ∧ a + 2 ≤ hdS f a e ∧ hdS f a e ≤ hdE f a e := by
  unfold hdC at h
  by_cases c1 : e ≤ a
  · rw [if_pos c1] at h; simp at h
  rw [if_neg c1] at h
  by_cases c2 : f a % 32 = 31
  · rw [if_pos c2] at h; simp at h
  rw [if_neg c2] at h
  by_cases c3 : 12 < d
  · rw [if_pos c3] at h; simp at h
  rw [if_neg c3] at h
  by_cases c4 : (lnR f a e).2.2 = 2
  · rw [if_pos c4] at h; simp at h
  rw [if_neg c4] at h
  by_cases c5 : (lnR f a e).2.2 = 4
  · rw [if_pos c5] at h; simp at h
  rw [if_neg c5] at h
  by_cases c6 : e < (lnR f a e).2.1 + (lnR f a e).1
  · rw [if_pos c6] at h; simp at h
  have hl := lnR_well c4 c5
  refine ⟨by omega, c2, by omega, hl.1, ?_, hl.2, ?_⟩
  · unfold hdE; omega
  · unfold hdE hdS; omega

/-- Where all is well, a reader stops behind its item, within the end. -/
theorem rdT_nx (f : Nat → Int) : ∀ k a e d, (rdT f k a e d).code = 0 → a + 2 ≤ (rdT f k a e d).nx ∧ (rdT f k a e d).nx ≤ e
  | 0, a, e, d, h => by simp [rdT] at h
  | k + 1, a, e, d, h => by
    rw [rdT] at h ⊢
    split at h
    · rename_i h1; exact absurd h h1
    · rename_i h1
      rw [if_neg h1]
      have h0 := hdC_ok (Decidable.not_not.1 h1)
      split at h
      · rename_i h2
        rw [if_pos h2]
        exact ⟨Nat.le_trans h0.2.2.2.2.2.1 h0.2.2.2.2.2.2, h0.2.2.2.2.1⟩
      · rename_i h2
        rw [if_neg h2]
        split at h
        · rename_i h3; exact absurd h h3
        · rename_i h3
          rw [if_neg h3]
          exact ⟨Nat.le_trans h0.2.2.2.2.2.1 h0.2.2.2.2.2.2, h0.2.2.2.2.1⟩

section

variable {f : Nat → Int} {t e : Nat} {r : List Nat} {rd : Nat → Rdr}

/-- Kids, read as the steps go. -/
theorem sim_K (hn : ∀ a, (rd a).code = 0 → a + 2 ≤ (rd a).nx ∧ (rd a).nx ≤ t)
    (h1 : ∀ a, (rd a).code ≠ 0 → ∃ H, Run f a (t :: e :: r) H (rd a).code (rd a).pl)
    (h2 : ∀ a, (rd a).code = 0 → ∀ H c p, Goes f (rd a).nx (t :: e :: r) H c p → Run f a (t :: e :: r) ((rd a).hs ++ H) c p) :
    ∀ m a, a ≤ t → t - a ≤ m → ((rdK rd t m a).1.code ≠ 0 → ∃ H, Goes f a (t :: e :: r) H (rdK rd t m a).1.code (rdK rd t m a).1.pl) ∧
      ((rdK rd t m a).1.code = 0 → (rdK rd t m a).1.nx = t ∧ ∀ H c p, Goes f t (t :: e :: r) H c p → Goes f a (t :: e :: r) ((rdK rd t m a).1.hs ++ H) c p)
  | 0, a, ha, hm => by
    obtain rfl : a = t := by omega
    rw [rdK]
    exact ⟨fun h => absurd rfl h, fun _ => ⟨rfl, fun H c p k => k⟩⟩
  | m + 1, a, ha, hm => by
    by_cases hle : t ≤ a
    · obtain rfl : a = t := by omega
      rw [rdK, if_pos hle]
      exact ⟨fun h => absurd rfl h, fun _ => ⟨rfl, fun H c p k => k⟩⟩
    · rw [rdK, if_neg hle]
      by_cases hc : (rd a).code = 0
      · rw [if_neg (fun h => h hc)]
        have hx := hn a hc
        have ih := sim_K hn h1 h2 m (rd a).nx hx.2 (by omega)
        by_cases hc2 : (rdK rd t m (rd a).nx).1.code = 0
        · rw [if_neg (fun h => h hc2)]
          refine ⟨fun h => absurd rfl h, fun _ => ⟨(ih.2 hc2).1, fun H c p k => ?_⟩⟩
          have k2 := (ih.2 hc2).2 H c p k
          have k3 := h2 a hc _ c p k2
          show Goes f a (t :: e :: r) ((rd a).hs ++ (rdK rd t m (rd a).nx).1.hs ++ H) c p
          rw [List.append_assoc]
          exact Goes.at' (by omega) (by simp) k3
        · rw [if_pos hc2]
          refine ⟨fun _ => ?_, fun h => absurd h hc2⟩
          obtain ⟨H, k⟩ := ih.1 hc2
          exact ⟨(rd a).hs ++ H, Goes.at' (by omega) (by simp) (h2 a hc _ _ _ k)⟩
      · rw [if_pos hc]
        refine ⟨fun _ => ?_, fun h => absurd h hc⟩
        obtain ⟨H, k⟩ := h1 a hc
        exact ⟨H, Goes.at' (by omega) (by simp) k⟩

end

/-- An item, read as the steps go. -/
theorem sim_I (f : Nat → Int) : ∀ k a e (r : List Nat), r.length + (k + 1) = 14 →
    ((rdT f (k + 1) a e r.length).code ≠ 0 → ∃ H, Run f a (e :: r) H (rdT f (k + 1) a e r.length).code (rdT f (k + 1) a e r.length).pl) ∧
    ((rdT f (k + 1) a e r.length).code = 0 → ∀ H c p, Goes f (rdT f (k + 1) a e r.length).nx (e :: r) H c p → Run f a (e :: r) ((rdT f (k + 1) a e r.length).hs ++ H) c p) := by
  intro k
  induction k with
  | zero =>
    intro a e r hr
    have hd : (hdC f a e r.length).1 ≠ 0 := fun h => by have := (hdC_ok h).2.2.1; omega
    rw [rdT, if_pos hd]
    exact ⟨fun _ => ⟨[], Run.bad hd⟩, fun h => absurd h hd⟩
  | succ k ih =>
    intro a e r hr
    rw [rdT]
    by_cases hd : (hdC f a e r.length).1 = 0
    · rw [if_neg (fun h => h hd)]
      have h0 := hdC_ok hd
      by_cases hm : mdT (f a) = false
      · rw [if_pos hm]
        refine ⟨fun h => absurd rfl h, fun _ H c p g => ?_⟩
        refine Run.step hd ?_
        rw [hm]
        exact g
      · have hm1 : mdT (f a) = true := by simpa using hm
        rw [if_neg hm]
        have ihk : ∀ x, _ := fun x => ih x (hdE f a e) (e :: r) (by simp; omega)
        have hlen : (e :: r).length = r.length + 1 := rfl
        rw [hlen] at ihk
        have K := sim_K (f := f) (t := hdE f a e) (e := e) (r := r) (rd := fun x => rdT f (k + 1) x (hdE f a e) (r.length + 1)) (fun x hx => rdT_nx f (k + 1) x (hdE f a e) (r.length + 1) hx) (fun x hx => (ihk x).1 hx) (fun x hx => (ihk x).2 hx) (hdE f a e - hdS f a e) (hdS f a e) h0.2.2.2.2.2.2 (Nat.le_refl _)
        generalize rdK (fun x => rdT f (k + 1) x (hdE f a e) (r.length + 1)) (hdE f a e) (hdE f a e - hdS f a e) (hdS f a e) = Q at K ⊢
        by_cases hc : Q.1.code = 0
        · rw [if_neg (fun h => h hc)]
          refine ⟨fun h => absurd rfl h, fun _ H c p g => ?_⟩
          refine Run.step hd ?_
          rw [hm1]
          exact (K.2 hc).2 H c p (Goes.pop (Nat.le_refl _) (by simp) g)
        · rw [if_pos hc]
          refine ⟨fun _ => ?_, fun h => absurd h hc⟩
          obtain ⟨H, g⟩ := K.1 hc
          refine ⟨_ :: H, Run.step hd ?_⟩
          rw [hm1]
          exact g
    · rw [if_pos hd]
      exact ⟨fun _ => ⟨[], Run.bad hd⟩, fun h => absurd h hd⟩

/-- The kids of one are more. -/
def bmp (c : Int) : List Ic → Nat → List Ic
  | [], _ => []
  | x :: l, 0 => ⟨x.tag, x.kid + c, x.bd⟩ :: l
  | x :: l, q + 1 => x :: bmp c l q

theorem bmp_len (c : Int) : ∀ (L : List Ic) (q : Nat), (bmp c L q).length = L.length
  | [], _ => rfl
  | x :: l, 0 => rfl
  | x :: l, q + 1 => by rw [bmp, List.length_cons, List.length_cons, bmp_len c l q]

theorem bmp_app (c : Int) : ∀ (A B : List Ic) (q : Nat), q < A.length → bmp c (A ++ B) q = bmp c A q ++ B
  | [], _, q, h => by simp at h
  | x :: l, B, 0, h => rfl
  | x :: l, B, q + 1, h => by
    rw [List.cons_append, bmp, bmp, bmp_app c l B q (by simpa using h)]
    rfl

theorem bmp_two (b c : Int) : ∀ (L : List Ic) (q : Nat), bmp c (bmp b L q) q = bmp (b + c) L q
  | [], _ => rfl
  | x :: l, 0 => by simp [bmp, Int.add_assoc]
  | x :: l, q + 1 => by simp [bmp, bmp_two b c l q]

theorem bmp_zero : ∀ (L : List Ic) (q : Nat), bmp 0 L q = L
  | [], _ => rfl
  | x :: l, 0 => by simp [bmp]
  | x :: l, q + 1 => by simp [bmp, bmp_zero l q]

theorem bmp_end (c : Int) : ∀ (A B : List Ic) (x : Ic), bmp c (A ++ x :: B) A.length = A ++ ⟨x.tag, x.kid + c, x.bd⟩ :: B
  | [], B, x => rfl
  | y :: A, B, x => by
    rw [List.cons_append, List.length_cons, bmp, bmp_end c A B x]
    rfl

/-- One head more: the item around has one kid more, the item stands behind the others. -/
def bmpL (L : List Ic) (line : List Nat) (a : Nat) : List Ic := if a = 0 then L else bmp 1 L (line.getD (a - 1) 0)

def addH (f : Nat → Int) (S : List Ic × List Nat) (h : Hed) : List Ic × List Nat := (bmpL S.1 S.2 h.ar ++ [itH f h], S.2.take h.ar ++ [S.1.length])

theorem bmpL_len (L : List Ic) (line : List Nat) (a : Nat) : (bmpL L line a).length = L.length := by
  unfold bmpL
  split
  · rfl
  · exact bmp_len _ _ _

theorem fold_K {f : Nat → Int} {t d : Nat} {rd : Nat → Rdr}
    (hI : ∀ a, (rd a).code = 0 → ∀ (L : List Ic) (line : List Nat), d + 1 ≤ line.length → line.getD d 0 < L.length → ∃ rest, (rd a).hs.foldl (addH f) (L, line) = (bmpL L line (d + 1) ++ (rd a).its, line.take (d + 1) ++ L.length :: rest)) :
    ∀ m a, (rdK rd t m a).1.code = 0 → ∀ (L : List Ic) (line : List Nat), d + 1 ≤ line.length → line.getD d 0 < L.length →
      ∃ line', (rdK rd t m a).1.hs.foldl (addH f) (L, line) = (bmp ((rdK rd t m a).2 : Int) L (line.getD d 0) ++ (rdK rd t m a).1.its, line') ∧ line'.take (d + 1) = line.take (d + 1)
  | 0, a, h, L, line, h1, h2 => ⟨line, by simp [rdK, bmp_zero], rfl⟩
  | m + 1, a, h, L, line, h1, h2 => by
    rw [rdK] at h ⊢
    by_cases hle : t ≤ a
    · rw [if_pos hle]
      exact ⟨line, by simp [bmp_zero], rfl⟩
    · rw [if_neg hle] at h ⊢
      by_cases hc : (rd a).code = 0
      · rw [if_neg (fun k => k hc)] at h ⊢
        by_cases hc2 : (rdK rd t m (rd a).nx).1.code = 0
        · rw [if_neg (fun k => k hc2)]
          obtain ⟨rest, e1⟩ := hI a hc L line h1 h2
          have hb : bmpL L line (d + 1) = bmp 1 L (line.getD d 0) := by unfold bmpL; rw [if_neg (by omega), Nat.add_sub_cancel]
          rw [hb] at e1
          have hl2 : d + 1 ≤ (line.take (d + 1) ++ L.length :: rest).length := by simp; omega
          have hg : (line.take (d + 1) ++ L.length :: rest).getD d 0 = line.getD d 0 := by
            simp only [List.getD_eq_getElem?_getD]
            rw [List.getElem?_append_left (by simp; omega), List.getElem?_take, if_pos (by omega)]
          have hlen : (bmp 1 L (line.getD d 0)).length = L.length := bmp_len _ _ _
          obtain ⟨line', e2, e3⟩ := fold_K hI m (rd a).nx hc2 (bmp 1 L (line.getD d 0) ++ (rd a).its) (line.take (d + 1) ++ L.length :: rest) hl2 (by rw [hg, List.length_append, hlen]; omega)
          refine ⟨line', ?_, ?_⟩
          · show ((rd a).hs ++ _).foldl (addH f) (L, line) = _
            rw [List.foldl_append, e1, e2, hg, bmp_app _ _ _ _ (by rw [hlen]; exact h2), bmp_two, List.append_assoc]
            congr 3
            push_cast
            omega
          · rw [e3, List.take_append_of_le_length (by simp; omega), List.take_take, Nat.min_self]
        · rw [if_pos hc2] at h
          exact absurd h hc2
      · rw [if_pos hc] at h
        exact absurd h hc

theorem fold_I (f : Nat → Int) : ∀ k a e d, (rdT f k a e d).code = 0 → ∀ (L : List Ic) (line : List Nat), d ≤ line.length → (0 < d → line.getD (d - 1) 0 < L.length) →
    ∃ rest, (rdT f k a e d).hs.foldl (addH f) (L, line) = (bmpL L line d ++ (rdT f k a e d).its, line.take d ++ L.length :: rest)
  | 0, a, e, d, h, _, _, _, _ => by simp [rdT] at h
  | k + 1, a, e, d, h, L, line, h1, h2 => by
    rw [rdT] at h ⊢
    by_cases hd : (hdC f a e d).1 = 0
    · rw [if_neg (fun h => h hd)] at h ⊢
      by_cases hm : mdT (f a) = false
      · rw [if_pos hm]
        exact ⟨[], rfl⟩
      · rw [if_neg hm] at h ⊢
        have hI := fun x hx L line (g1 : d + 1 ≤ List.length line) (g2 : line.getD d 0 < List.length L) => fold_I f k x (hdE f a e) (d + 1) hx L line g1 (fun _ => g2)
        have K := fold_K (f := f) (t := hdE f a e) (d := d) (rd := fun x => rdT f k x (hdE f a e) (d + 1)) hI (hdE f a e - hdS f a e) (hdS f a e)
        generalize rdK (fun x => rdT f k x (hdE f a e) (d + 1)) (hdE f a e) (hdE f a e - hdS f a e) (hdS f a e) = Q at K h ⊢
        by_cases hc : Q.1.code = 0
        · rw [if_neg (fun h => h hc)]
          have hml := bmpL_len L line d
          have hlt : (line.take d).length = d := by rw [List.length_take]; omega
          have hg : (line.take d ++ [L.length]).getD d 0 = L.length := by
            simp only [List.getD_eq_getElem?_getD]
            rw [List.getElem?_append_right (by omega), hlt, Nat.sub_self]
            rfl
          obtain ⟨line', e1, e2⟩ := K hc (bmpL L line d ++ [itH f (hdOf f a e d)]) (line.take d ++ [L.length]) (by rw [List.length_append, hlt]; simp) (by rw [hg, List.length_append, hml]; simp)
          rw [hg] at e1
          have hm1 : mdT (f a) = true := by simpa using hm
          refine ⟨line'.drop (d + 1), ?_⟩
          show List.foldl (addH f) (addH f (L, line) (hdOf f a e d)) Q.1.hs = _
          have e0 : addH f (L, line) (hdOf f a e d) = (bmpL L line d ++ [itH f (hdOf f a e d)], line.take d ++ [L.length]) := rfl
          rw [e0, e1]
          have e3 : bmp (Q.2 : Int) (bmpL L line d ++ [itH f (hdOf f a e d)]) L.length = bmpL L line d ++ [⟨f a, (Q.2 : Int), []⟩] := by
            rw [← hml, bmp_end]
            unfold itH hdOf
            simp [hm1]
          rw [e3]
          have e4 : line' = line.take d ++ L.length :: line'.drop (d + 1) := by
            have := List.take_append_drop (d + 1) line'
            rw [e2, List.take_of_length_le (by rw [List.length_append, hlt]; simp)] at this
            rw [List.append_assoc] at this
            exact this.symm
          rw [← e4]
          simp
        · rw [if_pos hc] at h
          exact absurd h hc
    · rw [if_pos hd] at h
      exact absurd h hd
end

section
set_option linter.unusedVariables false
set_option linter.unusedSimpArgs false

open Go.RowKit

/-- Turned about up to place i from each end. -/
def revF (f : Nat → Int) (n i : Nat) (k : Nat) : Int := if k < i ∨ n - i ≤ k then f (n - 1 - k) else f k
end

section
set_option linter.unusedVariables false
set_option linter.unusedSimpArgs false

open Go.RowKit

/-- One byte is enough for it. -/
def small (n : Int) : Bool := decide (-128 ≤ n) && decide (n ≤ 127)

theorem bseg_one (w : World) (x : Int) : BSeg (w.alloc (.cells #[.int .u8 x] 5)) (some ⟨w.heap.size, 0, none⟩) w.heap.size 0 1 (fun _ => x) := ⟨fun _ => rfl, fun i hi => by
    have := Blk.alloc w [.int .u8 x] 5
    have e : i = 0 := by omega
    subst e
    exact (this 0 _ rfl).1⟩

theorem owns_one8 (w : World) (x : Int) : (w.alloc (.cells #[.int .u8 x] 5)).ownsRow w.heap.size 5 1 (.slice (some ⟨w.heap.size, 0, none⟩) 1 1) 1 (byts (fun _ => x) 1) :=
  ⟨rfl, .inr ⟨w.heap.size, 1, #[.int .u8 x], rfl, Nat.le_refl _, heap_alloc_new w _, Nat.le_refl _, by decide, by simp, by simp [byts]⟩⟩
end

section
set_option linter.unusedVariables false
set_option linter.unusedSimpArgs false

open Go.RowKit

/-- What is left of n without its k lowest digits. -/
def dv (n B : Int) : Nat → Int
  | 0 => n
  | k + 1 => dv n B k / B

def dg (n B : Int) (k : Nat) : Int := dv n B k % B

/-- L digits and one more are all. -/
structure IsLenB (n B : Int) (L : Nat) : Prop where
  yes : dv n B (L + 1) ≤ 0
  no : ∀ j, j < L → 0 < dv n B (j + 1)

def blen (B : Int) : Nat → Int → Nat
  | 0, _ => 0
  | k + 1, n => if n / B ≤ 0 then 0 else 1 + blen B k (n / B)

theorem dv_shift (n B : Int) (k : Nat) : dv n B (k + 1) = dv (n / B) B k := by
  induction k with
  | zero => rfl
  | succ k ih => rw [dv, ih]; rfl

theorem blen_is {B : Int} (hB : B = 128 ∨ B = 256) : ∀ (k : Nat) (n : Int), 0 ≤ n → n.toNat ≤ k → IsLenB n B (blen B k n)
  | 0, n, h0, hk => ⟨by show n / B ≤ 0; rcases hB with rfl | rfl <;> omega, fun j hj => absurd hj (Nat.not_lt_zero _)⟩
  | k + 1, n, h0, hk => by
    unfold blen
    by_cases h : n / B ≤ 0
    · rw [if_pos h]
      exact ⟨h, fun j hj => absurd hj (Nat.not_lt_zero _)⟩
    · rw [if_neg h]
      have ih := blen_is hB k (n / B) (by omega) (by rcases hB with rfl | rfl <;> omega)
      refine ⟨?_, fun j hj => ?_⟩
      · rw [Nat.add_comm 1, dv_shift]; exact ih.yes
      · cases j with
        | zero => show 0 < n / B; omega
        | succ j => rw [dv_shift]; exact ih.no j (by omega)

theorem dv_nonneg {n B : Int} (hB : B = 128 ∨ B = 256) (h0 : 0 ≤ n) (k : Nat) : 0 ≤ dv n B k ∧ dv n B k ≤ n := by
  induction k with
  | zero => exact ⟨h0, Int.le_refl _⟩
  | succ k ih => unfold dv; rcases hB with rfl | rfl <;> omega

theorem IsLenB.le {n B : Int} {L : Nat} (h : IsLenB n B L) (hB : B = 128 ∨ B = 256) (h0 : 0 ≤ n) (h1 : n ≤ 9223372036854775807) : L ≤ 8 := by
  by_cases hL : L ≤ 8
  · exact hL
  · exfalso
    have h9 := h.no 8 (by omega)
    rcases hB with rfl | rfl
    · have e : dv n 128 9 = n / 128 / 128 / 128 / 128 / 128 / 128 / 128 / 128 / 128 := rfl
      rw [e] at h9
      omega
    · have e : dv n 256 9 = n / 256 / 256 / 256 / 256 / 256 / 256 / 256 / 256 / 256 := rfl
      rw [e] at h9
      omega

theorem IsLenB.unique {n B : Int} {L M : Nat} (h : IsLenB n B L) (k : IsLenB n B M) : L = M := by
  rcases Nat.lt_trichotomy L M with hl | hl | hl
  · have := k.no L hl; have := h.yes; omega
  · exact hl
  · have := h.no M hl; have := k.yes; omega

/-- How many digits there are, less one. -/
def lenB (B n : Int) : Nat := blen B n.toNat n

theorem lenB_is {B : Int} (hB : B = 128 ∨ B = 256) (n : Int) (h0 : 0 ≤ n) : IsLenB n B (lenB B n) := blen_is hB _ n h0 (Nat.le_refl _)

theorem byts_set (F : Nat → Int) (n i : Nat) (x : Int) : (byts F n).set i (.int .u8 x) = byts (fun k => if k = i then x else F k) n := by
  apply List.ext_getElem?
  intro k
  rw [List.getElem?_set]
  simp only [byts, List.length_map, List.length_range, List.getElem?_map]
  by_cases hk : k < n
  · rw [List.getElem?_range hk]
    by_cases e : i = k
    · subst e; simp [hk]
    · rw [if_neg e]; simp [Ne.symm e]
  · rw [List.getElem?_eq_none (by simpa using hk)]
    by_cases e : i = k
    · subst e; simp [hk]
    · rw [if_neg e]; rfl

theorem owns_set {w : World} {base g n cap : Nat} {F : Nat → Int} (h : w.ownsRow base 5 1 (.slice (some ⟨g, 0, none⟩) n cap) n (byts F n)) (i : Nat) (x : Int) :
    (w.setCell ⟨g, i, none⟩ (.int .u8 x)).ownsRow base 5 1 (.slice (some ⟨g, 0, none⟩) n cap) n (byts (fun k => if k = i then x else F k) n) := by
  rw [← byts_set]
  exact (World.ownsRow.stored h i _).1

theorem owns_cell {w : World} {base g n cap : Nat} {F : Nat → Int} (h : w.ownsRow base 5 1 (.slice (some ⟨g, 0, none⟩) n cap) n (byts F n)) (i : Nat) (hi : i < n) : w.cell? ⟨g, i, none⟩ = some (.int .u8 (F i)) := by
  rw [World.ownsRow.cellAt h i (by omega)]
  simp [byts, hi]

theorem owns_free {w : World} {base g n cap : Nat} {xs : List Value} (h : w.ownsRow base 5 1 (.slice (some ⟨g, 0, none⟩) n cap) n xs) (i : Nat) : w.frozen? ⟨g, i, none⟩ = false := World.ownsRow.frozenAt h i

set_option maxHeartbeats 1600000 in
set_option maxRecDepth 100000 in
theorem rev_own (base g n cap : Nat) (f : Nat → Int) (w : World) (hs : w.ownsRow base 5 1 (.slice (some ⟨g, 0, none⟩) n cap) n (byts f n)) (hn : n ≤ 1048576) :
    Calls Tryd.prog 65 #[.slice (some ⟨g, 0, none⟩) n cap] w fun e w' => e = .returned (.tuple #[]) ∧ w'.ownsRow base 5 1 (.slice (some ⟨g, 0, none⟩) n cap) n (byts (fun i => f (n - 1 - i)) n) ∧ Touch g w w' := by
  go_enter Tryd.func65, Tryd.ntmps65
  have Hs := hide hs
  clear hs
  go_wp2
  go_loopw [2, 3] (fun s2 s3 wr => ∃ i : Nat, 2 * i ≤ n + 1 ∧ s2 = .int .i64 i ∧ s3 = .int .i64 ((n : Int) - 1 - i) ∧ wr.ownsRow base 5 1 (.slice (some ⟨g, 0, none⟩) n cap) n (byts (revF f n i) n) ∧ Touch g w wr) (fun s2 _ _ => n - (intOf s2).toNat)
  case atStart => exact ⟨0, by omega, rfl, by go_num, owns_congr Hs.out (fun k hk => by unfold revF; rw [if_neg (by omega)]), Touch.refl _ _⟩
  case round =>
    obtain ⟨i, hi, rfl, rfl, hO, hT⟩ := hrel
    by_cases hlt : (i : Int) < (n : Int) - 1 - i
    · obtain ⟨j, hj⟩ : ∃ j, n - 1 - i = j := ⟨_, rfl⟩
      have hjz : (n : Int) - 1 - i = (j : Int) := by omega
      have hij : (i : Int) < j := by omega
      have ci := owns_cell hO i (by omega)
      have fi := owns_free hO i
      have cj := owns_cell hO j (by omega)
      have fj := owns_free hO j
      have hi' : (i : Int) < n := by omega
      have hj' : (j : Int) < n := by omega
      have HO := hide hO
      have HT := hide hT
      have Hj := hide hj
      have HC := hide (owns_set (owns_set hO i (revF f n i j)) j (revF f n i i))
      have hT2 := hide ((hT.set i (.int .u8 (revF f n i j))).set j (.int .u8 (revF f n i i)))
      rw [hjz]
      clear hO hT hj hjz hlt
      go_wp2_with fail
      go_region
      go_wp2
      go_roundw
      case rel =>
        have h1 := Hj.out
        refine ⟨i + 1, by omega, by go_num, by go_num, (owns_congr HC.out (fun k hk => ?_) : World.ownsRow _ _ _ _ _ _ _), hT2.out.drew 1⟩
        unfold revF
        by_cases e1 : k = j
        · subst e1
          rw [if_pos rfl, if_neg (by omega), if_pos (by omega)]
          congr 1; omega
        · rw [if_neg e1]
          by_cases e2 : k = i
          · subst e2
            rw [if_pos rfl, if_neg (by omega), if_pos (by omega)]
            congr 1; omega
          · rw [if_neg e2]
            by_cases e3 : k < i ∨ n - i ≤ k
            · rw [if_pos e3, if_pos (by omega)]
            · rw [if_neg e3, if_neg (by omega)]
      case measure => simp [intOf]; omega
    · have HO := hide hO
      clear hO
      go_wp2
      go_end0
      refine ⟨rfl, owns_congr HO.out (fun k hk => ?_), hT⟩
      unfold revF
      split
      · rfl
      · congr 1; omega

/-- Only what lies behind base may have turned. -/
theorem Touch.ext {g : Nat} {w0 w w' : World} (ht : Touch g w w') (he : Ext w0 w) (hg : w0.heap.size ≤ g) : Ext w0 w' := below_touch he ht hg

set_option maxHeartbeats 1600000 in
set_option maxRecDepth 100000 in
theorem inBase_any (n B : Int) (L : Nat) (hB : B = 128 ∨ B = 256) (hL : IsLenB n B L) (w : World) (h0 : 0 ≤ n) (h1 : n ≤ 9223372036854775807) :
    Calls Tryd.prog 55 #[.int .i64 n, .int .i64 B] w fun e w' => GivesR w (L + 1) (fun i => dg n B (L - i)) e w' := by
  have HL := hide hL
  have HB := hide hB
  have HO := hide (owns_one8 w (n % B))
  have HE := hide (Ext.alloc w (.cells #[.int .u8 (n % B)] 5))
  have m0 : n.tmod B = n % B := Int.tmod_eq_emod_of_nonneg h0
  have q0 : n.tdiv B = n / B := Int.tdiv_eq_ediv_of_nonneg h0
  have b0 : 0 < B := by omega
  have b1 : (B == 0) = false := by simp; omega
  have b2 : ¬ B = 0 := by omega
  have b3 : B ≤ 256 := by omega
  have u0 : n % B % 256 = n % B := by rcases hB with rfl | rfl <;> omega
  have l0 : 0 ≤ n % B := Int.emod_nonneg _ b2
  have l1 : n % B < B := Int.emod_lt_of_pos _ b0
  have d0 : 0 ≤ n / B := by rcases hB with rfl | rfl <;> omega
  have d1 : n / B ≤ 9223372036854775807 := by rcases hB with rfl | rfl <;> omega
  clear hL hB
  go_enter Tryd.func55, Tryd.ntmps55
  go_wp2
  clear m0 q0 u0 l0 l1 d0 d1
  go_loopw [0, 5] (fun x v wr => ∃ j : Nat, j ≤ L ∧ x = .int .i64 (dv n B (j + 1)) ∧ wr.ownsRow w.heap.size 5 1 v (j + 1) (byts (dg n B) (j + 1)) ∧ Ext w wr) (fun _ v _ => 9 - (match v with | .slice _ n _ => n | _ => 0))
  case atStart => exact ⟨0, by omega, rfl, HO.out, HE.out⟩
  case round =>
    clear HO HE
    obtain ⟨j, hj, rfl, hO, hE⟩ := hrel
    obtain ⟨hb0, hb1⟩ := dv_nonneg HB.out h0 (j + 1)
    by_cases hs : dv n B (j + 1) ≤ 0
    · have e : j = L := by
        by_cases hh : j < L
        · have := HL.out.no j hh; omega
        · omega
      subst e
      have HJ := hide (HL.out.le HB.out h0 h1)
      have x0 : ¬ (0 : Int) < dv n B (j + 1) := by omega
      have HE := hide hE
      obtain ⟨ya, yg, yc, rfl, hyg, hyn, hyc, hyB⟩ := owns_seg hO
      have HO := hide hO
      obtain rfl := hyB.at' (by omega)
      have Hyg := hide hyg
      clear hyB hyg hO hE hs HL
      generalize dv n B (j + 1) = x at *
      go_wp2_with fail
      refine (rev_own w.heap.size yg (j + 1) yc (dg n B) wr HO.out (by have := HJ.out; omega)).mono ?_
      rintro e w1 ⟨rfl, hr, hT⟩
      have HR := hide hr
      have HB := hide (hT.ext HE.out Hyg.out)
      clear hr hT
      go_wp2
      go_ret
      exact ⟨_, rfl, owns_congr HR.out (fun i hi => by show dg n B (j + 1 - 1 - i) = _; rw [show j + 1 - 1 - i = j - i by omega]), HB.out⟩
    · have hh : j < L := by
        have h2 := HL.out.yes
        by_cases e : j = L
        · subst e; exact absurd h2 hs
        · omega
      have x0 : (0 : Int) < dv n B (j + 1) := by omega
      have HE := hide hE
      have Hsz := hide (Below.size hE)
      have HJ := hide (Nat.lt_of_lt_of_le hh (HL.out.le HB.out h0 h1))
      have H8 : Hid (dv n B (j + 1 + 1) = dv n B (j + 1) / B) := rfl
      have Hy : Hid (dg n B (j + 1) = dv n B (j + 1) % B) := rfl
      have m0 : (dv n B (j + 1)).tmod B = dv n B (j + 1) % B := Int.tmod_eq_emod_of_nonneg hb0
      have q0 : (dv n B (j + 1)).tdiv B = dv n B (j + 1) / B := Int.tdiv_eq_ediv_of_nonneg hb0
      have u0 : dv n B (j + 1) % B % 256 = dv n B (j + 1) % B := by rcases HB.out with rfl | rfl <;> omega
      have l0 : 0 ≤ dv n B (j + 1) % B := Int.emod_nonneg _ b2
      have l1 : dv n B (j + 1) % B < B := Int.emod_lt_of_pos _ b0
      have d0 : 0 ≤ dv n B (j + 1) / B := by rcases HB.out with rfl | rfl <;> omega
      have d1 : dv n B (j + 1) / B ≤ 9223372036854775807 := by rcases HB.out with rfl | rfl <;> omega
      have HO1 := hide hO
      have HO := hide (hO.alloc (.cells #[.int .u8 (dv n B (j + 1) % B)] 5))
      have HX := hide (bseg_one wr (dv n B (j + 1) % B))
      clear hO hE hs
      go_wp2_with (at_builtin; refine wpList_append_bs rfl _ _ rfl w.heap.size _ (j + 1) _ rfl HO.out _ wr.heap.size 0 1 1 (fun _ => dv n B (j + 1) % B) rfl HX.out (by have := HJ.out; omega) (by have := Hsz.out; simp; omega) ?_)
      intro v' w1 h2 h3
      rw [byts_append] at h2
      have H2 : Hid (w1.ownsRow w.heap.size 5 1 v' (j + 1 + 1) (byts (dg n B) (j + 1 + 1))) := hide (owns_congr h2 (fun i hi => by
        unfold catF
        split
        · rfl
        · rw [show i = j + 1 by omega]; rfl))
      have H3 : Hid (Ext w w1) := hide (Below.trans (Ext.trans HE.out (Ext.alloc _ _)) h3)
      clear h2 h3 HO HX
      go_wp2
      go_roundw
      case rel => exact ⟨j + 1, by omega, by rw [H8.out], H2.out, H3.out⟩
      case measure =>
        obtain ⟨_, _, _, rfl, -⟩ := owns_seg H2.out
        obtain ⟨_, _, _, rfl, -⟩ := owns_seg HO1.out
        have := HJ.out
        simp
        omega
end

section
set_option linter.unusedVariables false
set_option linter.unusedSimpArgs false

open Go.RowKit

/-- How many bytes tell a length, and which. -/
def lgN (n : Int) : Nat := if n < 128 then 1 else lenB 256 n + 2

def lgF (n : Int) (i : Nat) : Int := if n < 128 then n else if i = 0 then 129 + (lenB 256 n : Int) else dg n 256 (lenB 256 n - (i - 1))

theorem len_low {n : Int} (h0 : 0 ≤ n) (h1 : n < 256) : lenB 256 n = 0 := by
  refine (lenB_is (B := 256) (.inr rfl) n h0).unique ⟨?_, fun j hj => by omega⟩
  show dv n 256 1 ≤ 0
  simp only [dv]
  omega

theorem len_mid {n : Int} (h0 : 256 ≤ n) (h1 : n < 65536) : lenB 256 n = 1 := by
  refine (lenB_is (B := 256) (.inr rfl) n (by omega)).unique ⟨?_, fun j hj => ?_⟩
  · show dv n 256 2 ≤ 0
    simp only [dv]
    omega
  · obtain rfl : j = 0 := by omega
    show 0 < dv n 256 1
    simp only [dv]
    omega

theorem len_le {n : Int} (h0 : 0 ≤ n) (h1 : n ≤ 9223372036854775807) : lenB 256 n ≤ 8 := (lenB_is (B := 256) (.inr rfl) n h0).le (.inr rfl) h0 h1

theorem owns_low {w : World} {B B' n : Nat} {v : Value} {xs : List Value} (h : B' ≤ B) (ho : w.ownsRow B 5 1 v n xs) : w.ownsRow B' 5 1 v n xs := by
  refine ⟨ho.1, ?_⟩
  rcases ho.2 with h0 | ⟨g, cap, cur, rfl, hb, rest⟩
  · exact .inl h0
  · exact .inr ⟨g, cap, cur, rfl, Nat.le_trans h hb, rest⟩

set_option maxHeartbeats 1600000 in
set_option maxRecDepth 100000 in
theorem lengthBytes_any (n : Int) (w : World) (h0 : 0 ≤ n) (h1 : n ≤ 9223372036854775807) : Calls Tryd.prog 32 #[.int .i64 n] w fun e w' => GivesR w (lgN n) (lgF n) e w' := by
  have HI := hide (inBase_any n 256 (lenB 256 n) (.inr rfl) (lenB_is (.inr rfl) n h0) w h0 h1)
  by_cases hl : n < 128
  · have e0 := len_low h0 (by omega)
    have hN : lgN n = 1 := by unfold lgN; rw [if_pos hl]
    have hF : ∀ i, i < 1 → (fun i => dg n 256 (0 - i)) i = lgF n i := fun i hi => by
      obtain rfl : i = 0 := by omega
      show dg n 256 0 = lgF n 0
      unfold lgF dg
      rw [if_pos hl]
      simp only [dv]
      omega
    have HF := hide hF
    rw [hN]
    rw [e0] at HI
    clear hN e0 hF
    go_enter Tryd.func32, Tryd.ntmps32
    go_wp2_with fail
    refine HI.out.mono ?_
    rintro e w1 ⟨v, rfl, hO, hE⟩
    have HR : Hid (GivesR w 1 (lgF n) (.returned v) w1) := ⟨v, rfl, owns_congr hO HF.out, hE⟩
    obtain ⟨ya, yg, yc, rfl, -, -, -, -⟩ := owns_seg hO
    clear hO hE HI
    go_wp2
    go_ret
    exact HR.out
  · have l8 := len_le h0 h1
    have hN : lgN n = lenB 256 n + 2 := by unfold lgN; rw [if_neg hl]
    have HG : Hid (∀ i, lgF n i = if i = 0 then 129 + (lenB 256 n : Int) else dg n 256 (lenB 256 n - (i - 1))) := fun i => by unfold lgF; rw [if_neg hl]
    rw [hN]
    generalize lenB 256 n = L at *
    generalize lgF n = G at *
    clear hN
    go_enter Tryd.func32, Tryd.ntmps32
    go_wp2_with fail
    refine HI.out.mono ?_
    rintro e w1 ⟨v, rfl, hO, hE⟩
    obtain ⟨ya, yg, yc, rfl, hyg, hyn, hyc, hyB⟩ := owns_seg hO
    have HX := hide (hyB.toBSeg.of_all (Ext.alloc w1 (.cells #[.int .u8 (129 + (L : Int))] 5)))
    have HO1 := hide (owns_one8 w1 (129 + (L : Int)))
    have HE := hide (hE.trans (Ext.alloc w1 (.cells #[.int .u8 (129 + (L : Int))] 5)))
    have hw1 : IntKind.u8.wrap ((L : Int) + 1) = (L : Int) + 1 := by rw [IntKind.wrap_u8]; omega
    have hw2 : IntKind.u8.wrap (128 + ((L : Int) + 1)) = 129 + (L : Int) := by rw [IntKind.wrap_u8]; omega
    have hsz : w.heap.size ≤ w1.heap.size := Below.size hE
    clear hO hE hyB HI hyg
    go_wp2_with (at_builtin; refine wpList_append_bs rfl _ _ rfl w1.heap.size _ 1 _ rfl HO1.out _ yg 0 (L + 1) yc (fun i => dg n 256 (L - i)) rfl HX.out (by omega) (by simp) ?_)
    intro v3 w3 hO3 hb3
    rw [byts_append] at hO3
    have HR : Hid (GivesR w (L + 2) G (.returned v3) w3) := ⟨v3, rfl, owns_low hsz (by
      rw [show 1 + (L + 1) = L + 2 by omega] at hO3
      refine owns_congr hO3 (fun i hi => ?_)
      rw [HG.out i]
      by_cases e : i = 0
      · subst e; rw [if_pos rfl, catF, if_pos (by omega)]
      · rw [if_neg e, catF, if_neg (by omega)]), Below.trans HE.out (hb3.mono hsz)⟩
    obtain ⟨ya3, yg3, yc3, rfl, -, -, -, -⟩ := owns_seg hO3
    clear hO3 hb3 HX HO1 HE
    go_wp2
    go_ret
    exact HR.out

theorem lgN_le {n : Int} (h0 : 0 ≤ n) (h1 : n ≤ 9223372036854775807) : 1 ≤ lgN n ∧ lgN n ≤ 10 := by
  have := len_le h0 h1
  unfold lgN
  split <;> omega

set_option maxHeartbeats 800000 in
theorem wholeLength_any (n : Int) (w : World) (h0 : 0 ≤ n) (h1 : n ≤ 1099511627776) : Calls Tryd.prog 30 #[.int .i64 n] w fun e w' => e = .returned (.int .i64 (1 + (lgN n : Int) + n)) ∧ Ext w w' := by
  have HL := hide (lengthBytes_any n w h0 (by omega))
  obtain ⟨l1, l2⟩ := lgN_le h0 (show n ≤ 9223372036854775807 by omega)
  generalize lgN n = N at *
  have e1 : wrap64 (1 + (N : Int)) = 1 + (N : Int) := by unfold wrap64; omega
  have e2 : wrap64 (1 + (N : Int) + n) = 1 + (N : Int) + n := by unfold wrap64; omega
  clear h0 h1 l1 l2
  go_enter Tryd.func30, Tryd.ntmps30
  go_wp2_with fail
  refine HL.out.mono ?_
  rintro e w1 ⟨v, rfl, hO, hE⟩
  obtain ⟨ya, yg, yc, rfl, -, -, -, -⟩ := owns_seg hO
  have HE := hide hE
  clear hO hE HL
  go_wp2
  go_ret
  exact ⟨(show Ending.returned (.int .i64 (wrap64 (1 + (N : Int) + n))) = _ by rw [e2]), HE.out⟩

/-- The model's bytes of a length. -/
theorem lg_low {n : Int} (h : n < 128) : lgN n = 1 ∧ ∀ i, i < 1 → lgF n i = n := ⟨by unfold lgN; rw [if_pos h], fun i _ => by unfold lgF; rw [if_pos h]⟩

theorem lg_mid {n : Int} (h0 : 128 ≤ n) (h1 : n < 256) : lgN n = 2 ∧ lgF n 0 = 129 ∧ lgF n 1 = n := by
  have e := len_low (n := n) (by omega) h1
  have hn : ¬ n < 128 := by omega
  unfold lgN lgF
  simp only [if_neg hn, e]
  refine ⟨trivial, rfl, ?_⟩
  show dg n 256 0 = n
  unfold dg
  simp only [dv]
  omega

theorem lg_high {n : Int} (h0 : 256 ≤ n) (h1 : n < 65536) : lgN n = 3 ∧ lgF n 0 = 130 ∧ lgF n 1 = n / 256 ∧ lgF n 2 = n % 256 := by
  have e := len_mid h0 h1
  have hn : ¬ n < 128 := by omega
  unfold lgN lgF
  simp only [if_neg hn, e]
  refine ⟨trivial, rfl, ?_, ?_⟩
  · show dg n 256 1 = n / 256
    unfold dg
    simp only [dv]
    omega
  · show dg n 256 0 = n % 256
    unfold dg
    simp only [dv]

set_option maxHeartbeats 800000 in
theorem l7Length_any (n : Int) (w : World) (h0 : 0 ≤ n) (h1 : n < 65536) : Calls Tryd.prog 68 #[.int .i64 n] w fun e w' => GivesR w (lgN n) (lgF n) e w' := by
  by_cases c1 : n < 128
  · obtain ⟨hN, hF⟩ := lg_low c1
    have HR : Hid (GivesR w (lgN n) (lgF n) (.returned (.slice (some ⟨w.heap.size, 0, none⟩) 1 1)) (w.alloc (.cells #[.int .u8 n] 5))) := by
      rw [hN]
      exact ⟨_, rfl, owns_congr (owns_one8 w n) (fun i hi => (hF i hi).symm), Ext.alloc _ _⟩
    have hw : IntKind.u8.wrap n = n := by rw [IntKind.wrap_u8]; omega
    clear hN hF h0 h1
    go_enter Tryd.func68, Tryd.ntmps68
    go_wp2
    go_ret
    exact HR.out
  · by_cases c2 : n < 256
    · obtain ⟨hN, f0, f1⟩ := lg_mid (by omega) c2
      have HR : Hid (GivesR w (lgN n) (lgF n) (.returned (.slice (some ⟨w.heap.size, 0, none⟩) 2 2)) (w.alloc (.cells #[.int .u8 129, .int .u8 n] 5))) := by
        rw [hN]
        refine ⟨_, rfl, ?_, Ext.alloc _ _⟩
        have := World.ownsRow_lit (e := 5) (size := 1) (base := w.heap.size) w #[.int .u8 129, .int .u8 n] 2 (Nat.le_refl _) (by decide) rfl
        rw [show byts (lgF n) 2 = [.int .u8 (lgF n 0), .int .u8 (lgF n 1)] from rfl, f0, f1]
        exact this
      have hw : IntKind.u8.wrap n = n := by rw [IntKind.wrap_u8]; omega
      clear hN f0 f1 h0 h1
      go_enter Tryd.func68, Tryd.ntmps68
      go_wp2
      go_ret
      exact HR.out
    · obtain ⟨hN, f0, f1, f2⟩ := lg_high (by omega) h1
      have HR : Hid (GivesR w (lgN n) (lgF n) (.returned (.slice (some ⟨w.heap.size, 0, none⟩) 3 3)) (w.alloc (.cells #[.int .u8 130, .int .u8 (n / 256), .int .u8 (n % 256)] 5))) := by
        rw [hN]
        refine ⟨_, rfl, ?_, Ext.alloc _ _⟩
        have := World.ownsRow_lit (e := 5) (size := 1) (base := w.heap.size) w #[.int .u8 130, .int .u8 (n / 256), .int .u8 (n % 256)] 3 (Nat.le_refl _) (by decide) rfl
        rw [show byts (lgF n) 3 = [.int .u8 (lgF n 0), .int .u8 (lgF n 1), .int .u8 (lgF n 2)] from rfl, f0, f1, f2]
        exact this
      have hw : IntKind.u8.wrap n = n % 256 := by rw [IntKind.wrap_u8]
      have hw2 : IntKind.u8.wrap (n / 256) = n / 256 := by rw [IntKind.wrap_u8]; omega
      clear hN f0 f1 f2 h0 h1
      go_enter Tryd.func68, Tryd.ntmps68
      go_wp2
      go_ret
      exact HR.out
end

end Go.Proofs.YtmcdikbcmikihaaDoor
