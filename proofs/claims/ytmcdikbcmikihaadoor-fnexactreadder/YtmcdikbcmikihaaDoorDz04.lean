/- Bytes read as trees, in plain numbers: what the model's recursion and the program's steps tell. -/
import Derived.Test.YtmcdikbcmikihaaDoorDz03
namespace Go.Proofs.YtmcdikbcmikihaaDoor

section
set_option linter.unusedVariables false
set_option linter.unusedSimpArgs false

/-- A length at at + 1, within e: the length, where what follows starts, and a code (0 well, 2 short, 4 no length). -/
def lnR (f : Nat → Int) (at' e : Nat) : Nat × Nat × Int :=
  if e ≤ at' + 1 then (0, 0, 2)
  else if f (at' + 1) < 128 then ((f (at' + 1)).toNat, at' + 2, 0)
  else if f (at' + 1) = 128 ∨ 130 < f (at' + 1) then (0, 0, 4)
  else if (e : Int) ≤ at' + 1 + (f (at' + 1) - 128) then (0, 0, 2)
  else if f (at' + 1) = 129 then (if f (at' + 2) < 128 then (0, 0, 4) else ((f (at' + 2)).toNat, at' + 3, 0))
  else if 256 * f (at' + 2) + f (at' + 3) < 256 then (0, 0, 4) else ((256 * f (at' + 2) + f (at' + 3)).toNat, at' + 4, 0)

/-- What an item's first bytes say: a code and its place; 0 where they are well. -/
def hdC (f : Nat → Int) (at' e d : Nat) : Int × Int :=
  if e ≤ at' then (2, at')
  else if f at' % 32 = 31 then (3, at')
  else if 12 < d then (6, at')
  else if (lnR f at' e).2.2 = 2 then (2, at')
  else if (lnR f at' e).2.2 = 4 then (4, at' + 1)
  else if e < (lnR f at' e).2.1 + (lnR f at' e).1 then (2, at')
  else (0, 0)

def hdS (f : Nat → Int) (at' e : Nat) : Nat := (lnR f at' e).2.1

def hdE (f : Nat → Int) (at' e : Nat) : Nat := (lnR f at' e).2.1 + (lnR f at' e).1

def mdT (t : Int) : Bool := decide (t / 32 % 2 = 1)

/-- An item's head: its Tag, where what follows its length starts and ends, and how many are around. -/
structure Hed where
  tag : Int
  st : Nat
  en : Nat
  ar : Nat

def hdOf (f : Nat → Int) (at' e d : Nat) : Hed := ⟨f at', hdS f at' e, hdE f at' e, d⟩

/-- The item of a head, without kids. -/
def itH (f : Nat → Int) (h : Hed) : Ic := ⟨h.tag, 0, if mdT h.tag then [] else (List.range (h.en - h.st)).map (fun i => f (h.st + i))⟩

/-- What is read: heads, items, the place behind, or a code (not 0) and its place. -/
structure Rdr where
  hs : List Hed
  its : List Ic
  nx : Nat
  code : Int
  pl : Int

/-- Kids one behind the other, up to e. -/
def rdK (rd : Nat → Rdr) (e : Nat) : Nat → Nat → Rdr × Nat
  | 0, a => (⟨[], [], a, 0, 0⟩, 0)
  | m + 1, a =>
    if e ≤ a then (⟨[], [], a, 0, 0⟩, 0)
    else if (rd a).code ≠ 0 then (⟨[], [], a, (rd a).code, (rd a).pl⟩, 0)
    else if (rdK rd e m (rd a).nx).1.code ≠ 0 then (⟨[], [], a, (rdK rd e m (rd a).nx).1.code, (rdK rd e m (rd a).nx).1.pl⟩, 0)
    else (⟨(rd a).hs ++ (rdK rd e m (rd a).nx).1.hs, (rd a).its ++ (rdK rd e m (rd a).nx).1.its, (rdK rd e m (rd a).nx).1.nx, 0, 0⟩, (rdK rd e m (rd a).nx).2 + 1)

/-- The model's reader: fuel, at, end, depth. -/
def rdT (f : Nat → Int) : Nat → Nat → Nat → Nat → Rdr
  | 0, a, e, d => ⟨[], [], a, 6, a⟩
  | k + 1, a, e, d =>
    if (hdC f a e d).1 ≠ 0 then ⟨[], [], a, (hdC f a e d).1, (hdC f a e d).2⟩
    else if mdT (f a) = false then ⟨[hdOf f a e d], [itH f (hdOf f a e d)], hdE f a e, 0, 0⟩
    else if (rdK (fun x => rdT f k x (hdE f a e) (d + 1)) (hdE f a e) (hdE f a e - hdS f a e) (hdS f a e)).1.code ≠ 0 then
      ⟨[], [], a, (rdK (fun x => rdT f k x (hdE f a e) (d + 1)) (hdE f a e) (hdE f a e - hdS f a e) (hdS f a e)).1.code, (rdK (fun x => rdT f k x (hdE f a e) (d + 1)) (hdE f a e) (hdE f a e - hdS f a e) (hdS f a e)).1.pl⟩
    else ⟨hdOf f a e d :: (rdK (fun x => rdT f k x (hdE f a e) (d + 1)) (hdE f a e) (hdE f a e - hdS f a e) (hdS f a e)).1.hs,
      ⟨f a, ((rdK (fun x => rdT f k x (hdE f a e) (d + 1)) (hdE f a e) (hdE f a e - hdS f a e) (hdS f a e)).2 : Int), []⟩ :: (rdK (fun x => rdT f k x (hdE f a e) (d + 1)) (hdE f a e) (hdE f a e - hdS f a e) (hdS f a e)).1.its, hdE f a e, 0, 0⟩

/-- Ends that stand behind a place: none is left but the last. -/
def beh (a : Nat) : List Nat → Option (List Nat)
  | [] => none
  | [_] => none
  | e :: e2 :: r => if a < e then some (e :: e2 :: r) else beh a (e2 :: r)

/-- What the program's steps tell from a place on, within these ends. -/
def RunL (f : Nat → Int) : List Hed → Nat → List Nat → Int → Int → Prop
  | [], a, es, c, p => ∃ e r, es = e :: r ∧ (hdC f a e r.length).1 ≠ 0 ∧ c = (hdC f a e r.length).1 ∧ p = (hdC f a e r.length).2
  | h :: H, a, es, c, p => ∃ e r, es = e :: r ∧ (hdC f a e r.length).1 = 0 ∧ h = hdOf f a e r.length ∧
      ((beh (if mdT (f a) then hdS f a e else hdE f a e) (if mdT (f a) then hdE f a e :: e :: r else e :: r) = none ∧ H = [] ∧ c = 0 ∧ p = 0) ∨ ∃ es', beh (if mdT (f a) then hdS f a e else hdE f a e) (if mdT (f a) then hdE f a e :: e :: r else e :: r) = some es' ∧ RunL f H (if mdT (f a) then hdS f a e else hdE f a e) es' c p)

def Run (f : Nat → Int) (a : Nat) (es : List Nat) (H : List Hed) (c p : Int) : Prop := RunL f H a es c p

theorem Run.bad {f : Nat → Int} {a e : Nat} {r : List Nat} (h : (hdC f a e r.length).1 ≠ 0) : Run f a (e :: r) [] (hdC f a e r.length).1 (hdC f a e r.length).2 := ⟨e, r, rfl, h, rfl, rfl⟩

theorem Run.last {f : Nat → Int} {a e : Nat} {r : List Nat} (h : (hdC f a e r.length).1 = 0) (k : beh (if mdT (f a) then hdS f a e else hdE f a e) (if mdT (f a) then hdE f a e :: e :: r else e :: r) = none) : Run f a (e :: r) [hdOf f a e r.length] 0 0 := ⟨e, r, rfl, h, rfl, .inl ⟨k, rfl, rfl, rfl⟩⟩

theorem Run.more {f : Nat → Int} {a e : Nat} {r es : List Nat} {H : List Hed} {c p : Int} (h : (hdC f a e r.length).1 = 0) (k : beh (if mdT (f a) then hdS f a e else hdE f a e) (if mdT (f a) then hdE f a e :: e :: r else e :: r) = some es) (q : Run f (if mdT (f a) then hdS f a e else hdE f a e) es H c p) : Run f a (e :: r) (hdOf f a e r.length :: H) c p := ⟨e, r, rfl, h, rfl, .inr ⟨es, k, q⟩⟩

/-- Going on behind a place. -/
def Goes (f : Nat → Int) (a : Nat) (es : List Nat) (H : List Hed) (c p : Int) : Prop :=
  (beh a es = none ∧ H = [] ∧ c = 0 ∧ p = 0) ∨ ∃ es', beh a es = some es' ∧ Run f a es' H c p

theorem Run.step {f : Nat → Int} {a e : Nat} {r : List Nat} {H : List Hed} {c p : Int} (h : (hdC f a e r.length).1 = 0) (k : Goes f (if mdT (f a) then hdS f a e else hdE f a e) (if mdT (f a) then hdE f a e :: e :: r else e :: r) H c p) : Run f a (e :: r) (hdOf f a e r.length :: H) c p := by
  rcases k with ⟨h1, rfl, rfl, rfl⟩ | ⟨es', h1, h2⟩
  · exact Run.last h h1
  · exact Run.more h h1 h2

/-- Where the place is behind the innermost end, that end goes. -/
theorem Goes.pop {f : Nat → Int} {a e : Nat} {r : List Nat} {H : List Hed} {c p : Int} (he : e ≤ a) (hr : r ≠ []) (h : Goes f a r H c p) : Goes f a (e :: r) H c p := by
  cases r with
  | nil => exact absurd rfl hr
  | cons e2 r =>
    have hb : beh a (e :: e2 :: r) = beh a (e2 :: r) := by rw [beh, if_neg (by omega)]
    unfold Goes
    rw [hb]
    exact h

theorem Goes.at' {f : Nat → Int} {a e : Nat} {r : List Nat} {H : List Hed} {c p : Int} (he : a < e) (hr : r ≠ []) (h : Run f a (e :: r) H c p) : Goes f a (e :: r) H c p := by
  cases r with
  | nil => exact absurd rfl hr
  | cons e2 r => exact .inr ⟨_, by rw [beh, if_pos he], h⟩

theorem lnR_well {f : Nat → Int} {a e : Nat} (h2 : (lnR f a e).2.2 ≠ 2) (h4 : (lnR f a e).2.2 ≠ 4) : (lnR f a e).2.2 = 0 ∧ a + 2 ≤ (lnR f a e).2.1 := by
  unfold lnR at *
  by_cases c1 : e ≤ a + 1
  · rw [if_pos c1] at h2; exact absurd rfl h2
  rw [if_neg c1] at h2 h4 ⊢
  by_cases c2 : f (a + 1) < 128
  · rw [if_pos c2]; exact ⟨rfl, Nat.le_refl _⟩
  rw [if_neg c2] at h2 h4 ⊢
  by_cases c3 : f (a + 1) = 128 ∨ 130 < f (a + 1)
  · rw [if_pos c3] at h4; exact absurd rfl h4
  rw [if_neg c3] at h2 h4 ⊢
  by_cases c4 : (e : Int) ≤ a + 1 + (f (a + 1) - 128)
  · rw [if_pos c4] at h2; exact absurd rfl h2
  rw [if_neg c4] at h2 h4 ⊢
  by_cases c5 : f (a + 1) = 129
  · rw [if_pos c5] at h2 h4 ⊢
    by_cases c6 : f (a + 2) < 128
    · rw [if_pos c6] at h4; exact absurd rfl h4
    · rw [if_neg c6]; exact ⟨rfl, Nat.le_succ _⟩
  · rw [if_neg c5] at h2 h4 ⊢
    by_cases c6 : 256 * f (a + 2) + f (a + 3) < 256
    · rw [if_pos c6] at h4; exact absurd rfl h4
    · rw [if_neg c6]; exact ⟨rfl, by show a + 2 ≤ a + 4; omega⟩

theorem hdC_ok {f : Nat → Int} {a e d : Nat} (h : (hdC f a e d).1 = 0) : a < e ∧ f a % 32 ≠ 31 ∧ d ≤ 12 ∧ (lnR f a e).2.2 = 0 ∧ hdE f a e ≤ e ∧ a + 2 ≤ hdS f a e ∧ hdS f a e ≤ hdE f a e := by
  unfold hdC at h
  by_cases c1 : e ≤ a
  · rw [if_pos c1] at h; simp at h
  rw [if_neg c1] at h
  by_cases c2 : f a % 32 = 31
  · rw [if_pos c2] at h; simp at h
  rw [if_neg c2] at h
  by_cases c3 : 12 < d
  · rw [if_pos c3] at h; simp at h
  rw [if_neg c3] at h
  by_cases c4 : (lnR f a e).2.2 = 2
  · rw [if_pos c4] at h; simp at h
  rw [if_neg c4] at h
  by_cases c5 : (lnR f a e).2.2 = 4
  · rw [if_pos c5] at h; simp at h
  rw [if_neg c5] at h
  by_cases c6 : e < (lnR f a e).2.1 + (lnR f a e).1
  · rw [if_pos c6] at h; simp at h
  have hl := lnR_well c4 c5
  refine ⟨by omega, c2, by omega, hl.1, ?_, hl.2, ?_⟩
  · unfold hdE; omega
  · unfold hdE hdS; omega

/-- Where all is well, a reader stops behind its item, within the end. -/
theorem rdT_nx (f : Nat → Int) : ∀ k a e d, (rdT f k a e d).code = 0 → a + 2 ≤ (rdT f k a e d).nx ∧ (rdT f k a e d).nx ≤ e
  | 0, a, e, d, h => by simp [rdT] at h
  | k + 1, a, e, d, h => by
    rw [rdT] at h ⊢
    split at h
    · rename_i h1; exact absurd h h1
    · rename_i h1
      rw [if_neg h1]
      have h0 := hdC_ok (Decidable.not_not.1 h1)
      split at h
      · rename_i h2
        rw [if_pos h2]
        exact ⟨Nat.le_trans h0.2.2.2.2.2.1 h0.2.2.2.2.2.2, h0.2.2.2.2.1⟩
      · rename_i h2
        rw [if_neg h2]
        split at h
        · rename_i h3; exact absurd h h3
        · rename_i h3
          rw [if_neg h3]
          exact ⟨Nat.le_trans h0.2.2.2.2.2.1 h0.2.2.2.2.2.2, h0.2.2.2.2.1⟩

section

variable {f : Nat → Int} {t e : Nat} {r : List Nat} {rd : Nat → Rdr}

/-- Kids, read as the steps go. -/
theorem sim_K (hn : ∀ a, (rd a).code = 0 → a + 2 ≤ (rd a).nx ∧ (rd a).nx ≤ t)
    (h1 : ∀ a, (rd a).code ≠ 0 → ∃ H, Run f a (t :: e :: r) H (rd a).code (rd a).pl)
    (h2 : ∀ a, (rd a).code = 0 → ∀ H c p, Goes f (rd a).nx (t :: e :: r) H c p → Run f a (t :: e :: r) ((rd a).hs ++ H) c p) :
    ∀ m a, a ≤ t → t - a ≤ m → ((rdK rd t m a).1.code ≠ 0 → ∃ H, Goes f a (t :: e :: r) H (rdK rd t m a).1.code (rdK rd t m a).1.pl) ∧
      ((rdK rd t m a).1.code = 0 → (rdK rd t m a).1.nx = t ∧ ∀ H c p, Goes f t (t :: e :: r) H c p → Goes f a (t :: e :: r) ((rdK rd t m a).1.hs ++ H) c p)
  | 0, a, ha, hm => by
    obtain rfl : a = t := by omega
    rw [rdK]
    exact ⟨fun h => absurd rfl h, fun _ => ⟨rfl, fun H c p k => k⟩⟩
  | m + 1, a, ha, hm => by
    by_cases hle : t ≤ a
    · obtain rfl : a = t := by omega
      rw [rdK, if_pos hle]
      exact ⟨fun h => absurd rfl h, fun _ => ⟨rfl, fun H c p k => k⟩⟩
    · rw [rdK, if_neg hle]
      by_cases hc : (rd a).code = 0
      · rw [if_neg (fun h => h hc)]
        have hx := hn a hc
        have ih := sim_K hn h1 h2 m (rd a).nx hx.2 (by omega)
        by_cases hc2 : (rdK rd t m (rd a).nx).1.code = 0
        · rw [if_neg (fun h => h hc2)]
          refine ⟨fun h => absurd rfl h, fun _ => ⟨(ih.2 hc2).1, fun H c p k => ?_⟩⟩
          have k2 := (ih.2 hc2).2 H c p k
          have k3 := h2 a hc _ c p k2
          show Goes f a (t :: e :: r) ((rd a).hs ++ (rdK rd t m (rd a).nx).1.hs ++ H) c p
          rw [List.append_assoc]
          exact Goes.at' (by omega) (by simp) k3
        · rw [if_pos hc2]
          refine ⟨fun _ => ?_, fun h => absurd h hc2⟩
          obtain ⟨H, k⟩ := ih.1 hc2
          exact ⟨(rd a).hs ++ H, Goes.at' (by omega) (by simp) (h2 a hc _ _ _ k)⟩
      · rw [if_pos hc]
        refine ⟨fun _ => ?_, fun h => absurd h hc⟩
        obtain ⟨H, k⟩ := h1 a hc
        exact ⟨H, Goes.at' (by omega) (by simp) k⟩

end

/-- An item, read as the steps go. -/
theorem sim_I (f : Nat → Int) : ∀ k a e (r : List Nat), r.length + (k + 1) = 14 →
    ((rdT f (k + 1) a e r.length).code ≠ 0 → ∃ H, Run f a (e :: r) H (rdT f (k + 1) a e r.length).code (rdT f (k + 1) a e r.length).pl) ∧
    ((rdT f (k + 1) a e r.length).code = 0 → ∀ H c p, Goes f (rdT f (k + 1) a e r.length).nx (e :: r) H c p → Run f a (e :: r) ((rdT f (k + 1) a e r.length).hs ++ H) c p) := by
  intro k
  induction k with
  | zero =>
    intro a e r hr
    have hd : (hdC f a e r.length).1 ≠ 0 := fun h => by have := (hdC_ok h).2.2.1; omega
    rw [rdT, if_pos hd]
    exact ⟨fun _ => ⟨[], Run.bad hd⟩, fun h => absurd h hd⟩
  | succ k ih =>
    intro a e r hr
    rw [rdT]
    by_cases hd : (hdC f a e r.length).1 = 0
    · rw [if_neg (fun h => h hd)]
      have h0 := hdC_ok hd
      by_cases hm : mdT (f a) = false
      · rw [if_pos hm]
        refine ⟨fun h => absurd rfl h, fun _ H c p g => ?_⟩
        refine Run.step hd ?_
        rw [hm]
        exact g
      · have hm1 : mdT (f a) = true := by simpa using hm
        rw [if_neg hm]
        have ihk : ∀ x, _ := fun x => ih x (hdE f a e) (e :: r) (by simp; omega)
        have hlen : (e :: r).length = r.length + 1 := rfl
        rw [hlen] at ihk
        have K := sim_K (f := f) (t := hdE f a e) (e := e) (r := r) (rd := fun x => rdT f (k + 1) x (hdE f a e) (r.length + 1)) (fun x hx => rdT_nx f (k + 1) x (hdE f a e) (r.length + 1) hx) (fun x hx => (ihk x).1 hx) (fun x hx => (ihk x).2 hx) (hdE f a e - hdS f a e) (hdS f a e) h0.2.2.2.2.2.2 (Nat.le_refl _)
        generalize rdK (fun x => rdT f (k + 1) x (hdE f a e) (r.length + 1)) (hdE f a e) (hdE f a e - hdS f a e) (hdS f a e) = Q at K ⊢
        by_cases hc : Q.1.code = 0
        · rw [if_neg (fun h => h hc)]
          refine ⟨fun h => absurd rfl h, fun _ H c p g => ?_⟩
          refine Run.step hd ?_
          rw [hm1]
          exact (K.2 hc).2 H c p (Goes.pop (Nat.le_refl _) (by simp) g)
        · rw [if_pos hc]
          refine ⟨fun _ => ?_, fun h => absurd h hc⟩
          obtain ⟨H, g⟩ := K.1 hc
          refine ⟨_ :: H, Run.step hd ?_⟩
          rw [hm1]
          exact g
    · rw [if_pos hd]
      exact ⟨fun _ => ⟨[], Run.bad hd⟩, fun h => absurd h hd⟩

/-- The kids of one are more. -/
def bmp (c : Int) : List Ic → Nat → List Ic
  | [], _ => []
  | x :: l, 0 => ⟨x.tag, x.kid + c, x.bd⟩ :: l
  | x :: l, q + 1 => x :: bmp c l q

theorem bmp_len (c : Int) : ∀ (L : List Ic) (q : Nat), (bmp c L q).length = L.length
  | [], _ => rfl
  | x :: l, 0 => rfl
  | x :: l, q + 1 => by rw [bmp, List.length_cons, List.length_cons, bmp_len c l q]

theorem bmp_app (c : Int) : ∀ (A B : List Ic) (q : Nat), q < A.length → bmp c (A ++ B) q = bmp c A q ++ B
  | [], _, q, h => by simp at h
  | x :: l, B, 0, h => rfl
  | x :: l, B, q + 1, h => by
    rw [List.cons_append, bmp, bmp, bmp_app c l B q (by simpa using h)]
    rfl

theorem bmp_two (b c : Int) : ∀ (L : List Ic) (q : Nat), bmp c (bmp b L q) q = bmp (b + c) L q
  | [], _ => rfl
  | x :: l, 0 => by simp [bmp, Int.add_assoc]
  | x :: l, q + 1 => by simp [bmp, bmp_two b c l q]

theorem bmp_zero : ∀ (L : List Ic) (q : Nat), bmp 0 L q = L
  | [], _ => rfl
  | x :: l, 0 => by simp [bmp]
  | x :: l, q + 1 => by simp [bmp, bmp_zero l q]

theorem bmp_end (c : Int) : ∀ (A B : List Ic) (x : Ic), bmp c (A ++ x :: B) A.length = A ++ ⟨x.tag, x.kid + c, x.bd⟩ :: B
  | [], B, x => rfl
  | y :: A, B, x => by
    rw [List.cons_append, List.length_cons, bmp, bmp_end c A B x]
    rfl

/-- One head more: the item around has one kid more, the item stands behind the others. -/
def bmpL (L : List Ic) (line : List Nat) (a : Nat) : List Ic := if a = 0 then L else bmp 1 L (line.getD (a - 1) 0)

def addH (f : Nat → Int) (S : List Ic × List Nat) (h : Hed) : List Ic × List Nat := (bmpL S.1 S.2 h.ar ++ [itH f h], S.2.take h.ar ++ [S.1.length])

theorem bmpL_len (L : List Ic) (line : List Nat) (a : Nat) : (bmpL L line a).length = L.length := by
  unfold bmpL
  split
  · rfl
  · exact bmp_len _ _ _

theorem fold_K {f : Nat → Int} {t d : Nat} {rd : Nat → Rdr}
    (hI : ∀ a, (rd a).code = 0 → ∀ (L : List Ic) (line : List Nat), d + 1 ≤ line.length → line.getD d 0 < L.length → ∃ rest, (rd a).hs.foldl (addH f) (L, line) = (bmpL L line (d + 1) ++ (rd a).its, line.take (d + 1) ++ L.length :: rest)) :
    ∀ m a, (rdK rd t m a).1.code = 0 → ∀ (L : List Ic) (line : List Nat), d + 1 ≤ line.length → line.getD d 0 < L.length →
      ∃ line', (rdK rd t m a).1.hs.foldl (addH f) (L, line) = (bmp ((rdK rd t m a).2 : Int) L (line.getD d 0) ++ (rdK rd t m a).1.its, line') ∧ line'.take (d + 1) = line.take (d + 1)
  | 0, a, h, L, line, h1, h2 => ⟨line, by simp [rdK, bmp_zero], rfl⟩
  | m + 1, a, h, L, line, h1, h2 => by
    rw [rdK] at h ⊢
    by_cases hle : t ≤ a
    · rw [if_pos hle]
      exact ⟨line, by simp [bmp_zero], rfl⟩
    · rw [if_neg hle] at h ⊢
      by_cases hc : (rd a).code = 0
      · rw [if_neg (fun k => k hc)] at h ⊢
        by_cases hc2 : (rdK rd t m (rd a).nx).1.code = 0
        · rw [if_neg (fun k => k hc2)]
          obtain ⟨rest, e1⟩ := hI a hc L line h1 h2
          have hb : bmpL L line (d + 1) = bmp 1 L (line.getD d 0) := by unfold bmpL; rw [if_neg (by omega), Nat.add_sub_cancel]
          rw [hb] at e1
          have hl2 : d + 1 ≤ (line.take (d + 1) ++ L.length :: rest).length := by simp; omega
          have hg : (line.take (d + 1) ++ L.length :: rest).getD d 0 = line.getD d 0 := by
            simp only [List.getD_eq_getElem?_getD]
            rw [List.getElem?_append_left (by simp; omega), List.getElem?_take, if_pos (by omega)]
          have hlen : (bmp 1 L (line.getD d 0)).length = L.length := bmp_len _ _ _
          obtain ⟨line', e2, e3⟩ := fold_K hI m (rd a).nx hc2 (bmp 1 L (line.getD d 0) ++ (rd a).its) (line.take (d + 1) ++ L.length :: rest) hl2 (by rw [hg, List.length_append, hlen]; omega)
          refine ⟨line', ?_, ?_⟩
          · show ((rd a).hs ++ _).foldl (addH f) (L, line) = _
            rw [List.foldl_append, e1, e2, hg, bmp_app _ _ _ _ (by rw [hlen]; exact h2), bmp_two, List.append_assoc]
            congr 3
            push_cast
            omega
          · rw [e3, List.take_append_of_le_length (by simp; omega), List.take_take, Nat.min_self]
        · rw [if_pos hc2] at h
          exact absurd h hc2
      · rw [if_pos hc] at h
        exact absurd h hc

theorem fold_I (f : Nat → Int) : ∀ k a e d, (rdT f k a e d).code = 0 → ∀ (L : List Ic) (line : List Nat), d ≤ line.length → (0 < d → line.getD (d - 1) 0 < L.length) →
    ∃ rest, (rdT f k a e d).hs.foldl (addH f) (L, line) = (bmpL L line d ++ (rdT f k a e d).its, line.take d ++ L.length :: rest)
  | 0, a, e, d, h, _, _, _, _ => by simp [rdT] at h
  | k + 1, a, e, d, h, L, line, h1, h2 => by
    rw [rdT] at h ⊢
    by_cases hd : (hdC f a e d).1 = 0
    · rw [if_neg (fun h => h hd)] at h ⊢
      by_cases hm : mdT (f a) = false
      · rw [if_pos hm]
        exact ⟨[], rfl⟩
      · rw [if_neg hm] at h ⊢
        have hI := fun x hx L line (g1 : d + 1 ≤ List.length line) (g2 : line.getD d 0 < List.length L) => fold_I f k x (hdE f a e) (d + 1) hx L line g1 (fun _ => g2)
        have K := fold_K (f := f) (t := hdE f a e) (d := d) (rd := fun x => rdT f k x (hdE f a e) (d + 1)) hI (hdE f a e - hdS f a e) (hdS f a e)
        generalize rdK (fun x => rdT f k x (hdE f a e) (d + 1)) (hdE f a e) (hdE f a e - hdS f a e) (hdS f a e) = Q at K h ⊢
        by_cases hc : Q.1.code = 0
        · rw [if_neg (fun h => h hc)]
          have hml := bmpL_len L line d
          have hlt : (line.take d).length = d := by rw [List.length_take]; omega
          have hg : (line.take d ++ [L.length]).getD d 0 = L.length := by
            simp only [List.getD_eq_getElem?_getD]
            rw [List.getElem?_append_right (by omega), hlt, Nat.sub_self]
            rfl
          obtain ⟨line', e1, e2⟩ := K hc (bmpL L line d ++ [itH f (hdOf f a e d)]) (line.take d ++ [L.length]) (by rw [List.length_append, hlt]; simp) (by rw [hg, List.length_append, hml]; simp)
          rw [hg] at e1
          have hm1 : mdT (f a) = true := by simpa using hm
          refine ⟨line'.drop (d + 1), ?_⟩
          show List.foldl (addH f) (addH f (L, line) (hdOf f a e d)) Q.1.hs = _
          have e0 : addH f (L, line) (hdOf f a e d) = (bmpL L line d ++ [itH f (hdOf f a e d)], line.take d ++ [L.length]) := rfl
          rw [e0, e1]
          have e3 : bmp (Q.2 : Int) (bmpL L line d ++ [itH f (hdOf f a e d)]) L.length = bmpL L line d ++ [⟨f a, (Q.2 : Int), []⟩] := by
            rw [← hml, bmp_end]
            unfold itH hdOf
            simp [hm1]
          rw [e3]
          have e4 : line' = line.take d ++ L.length :: line'.drop (d + 1) := by
            have := List.take_append_drop (d + 1) line'
            rw [e2, List.take_of_length_le (by rw [List.length_append, hlt]; simp)] at this
            rw [List.append_assoc] at this
            exact this.symm
          rw [← e4]
          simp
        · rw [if_pos hc] at h
          exact absurd h hc
    · rw [if_pos hd] at h
      exact absurd h hd

/-- There are no more items than bytes. -/
theorem rdK_len {t : Nat} {rd : Nat → Rdr} (h : ∀ a, (rd a).code = 0 → (rd a).its.length + a ≤ (rd a).nx) : ∀ m a, (rdK rd t m a).1.code = 0 → (rdK rd t m a).1.its.length + a ≤ (rdK rd t m a).1.nx
  | 0, a, _ => by simp [rdK]
  | m + 1, a, hc => by
    rw [rdK] at hc ⊢
    by_cases hle : t ≤ a
    · rw [if_pos hle]; simp
    · rw [if_neg hle] at hc ⊢
      by_cases h1 : (rd a).code = 0
      · rw [if_neg (fun k => k h1)] at hc ⊢
        by_cases h2 : (rdK rd t m (rd a).nx).1.code = 0
        · rw [if_neg (fun k => k h2)]
          have e1 := h a h1
          have e2 := rdK_len h m (rd a).nx h2
          show ((rd a).its ++ (rdK rd t m (rd a).nx).1.its).length + a ≤ (rdK rd t m (rd a).nx).1.nx
          rw [List.length_append]
          omega
        · rw [if_pos h2] at hc; exact absurd hc h2
      · rw [if_pos h1] at hc; exact absurd hc h1

theorem rdT_len (f : Nat → Int) : ∀ k a e d, (rdT f k a e d).code = 0 → (rdT f k a e d).its.length + a ≤ (rdT f k a e d).nx
  | 0, a, e, d, h => by simp [rdT] at h
  | k + 1, a, e, d, h => by
    rw [rdT] at h ⊢
    by_cases hd : (hdC f a e d).1 = 0
    · rw [if_neg (fun h => h hd)] at h ⊢
      have h0 := hdC_ok hd
      by_cases hm : mdT (f a) = false
      · rw [if_pos hm]
        show 1 + a ≤ hdE f a e
        omega
      · rw [if_neg hm] at h ⊢
        have K := rdK_len (t := hdE f a e) (rd := fun x => rdT f k x (hdE f a e) (d + 1)) (fun x hx => rdT_len f k x (hdE f a e) (d + 1) hx) (hdE f a e - hdS f a e) (hdS f a e)
        have N : ∀ m x, x ≤ hdE f a e → (rdK (fun x => rdT f k x (hdE f a e) (d + 1)) (hdE f a e) m x).1.code = 0 → (rdK (fun x => rdT f k x (hdE f a e) (d + 1)) (hdE f a e) m x).1.nx ≤ hdE f a e := by
          intro m
          induction m with
          | zero => intro x hx _; exact hx
          | succ m ih =>
            intro x hx hc
            rw [rdK] at hc ⊢
            by_cases hle : hdE f a e ≤ x
            · rw [if_pos hle]; exact hx
            · rw [if_neg hle] at hc ⊢
              by_cases h1 : (rdT f k x (hdE f a e) (d + 1)).code = 0
              · rw [if_neg (fun k => k h1)] at hc ⊢
                by_cases h2 : (rdK (fun x => rdT f k x (hdE f a e) (d + 1)) (hdE f a e) m (rdT f k x (hdE f a e) (d + 1)).nx).1.code = 0
                · rw [if_neg (fun k => k h2)]
                  exact ih _ (rdT_nx f k x (hdE f a e) (d + 1) h1).2 h2
                · rw [if_pos h2] at hc; exact absurd hc h2
              · rw [if_pos h1] at hc; exact absurd hc h1
        have N1 := N (hdE f a e - hdS f a e) (hdS f a e) h0.2.2.2.2.2.2
        generalize rdK (fun x => rdT f k x (hdE f a e) (d + 1)) (hdE f a e) (hdE f a e - hdS f a e) (hdS f a e) = Q at K N1 h ⊢
        by_cases hc : Q.1.code = 0
        · rw [if_neg (fun h => h hc)]
          have e1 := K hc
          have e2 := N1 hc
          show (_ :: Q.1.its).length + a ≤ hdE f a e
          rw [List.length_cons]
          omega
        · rw [if_pos hc] at h; exact absurd h hc
    · rw [if_pos hd] at h; exact absurd h hd
end

end Go.Proofs.YtmcdikbcmikihaaDoor
