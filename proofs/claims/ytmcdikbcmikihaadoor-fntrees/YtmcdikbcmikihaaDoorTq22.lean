/- The walk of the law FnExactReadDer. Plain facts: how many bytes an item has. Walks: WriteDer of the model. What is read as a tree is written as just these bytes; in plain numbers. What is read is a right tree; where none is read, the place is within. Plain numbers. A right tree's bytes are read as just that tree; in plain numbers. -/
import Derived.Test.YtmcdikbcmikihaaDoorChecked
import Derived.Test.YtmcdikbcmikihaaDoorTq01
import Derived.Test.YtmcdikbcmikihaaDoorTq04
import Derived.Test.YtmcdikbcmikihaaDoorTq21
import Derived.Test.YtmcdikbcmikihaaDoorTq07
import Derived.Test.YtmcdikbcmikihaaDoorTq10
import Derived.Test.YtmcdikbcmikihaaDoorTq03
namespace Go.Proofs.YtmcdikbcmikihaaDoor

section
set_option linter.unusedVariables false
set_option linter.unusedSimpArgs false

open Go.RowKit

/-- Items and bytes together. -/
def wt : List Ic → Nat
  | [] => 0
  | c :: L => 1 + c.bd.length + wt L

theorem wt_app : ∀ (A B : List Ic), wt (A ++ B) = wt A + wt B
  | [], B => by simp [wt]
  | a :: A, B => by rw [List.cons_append, wt, wt, wt_app A B]; omega

theorem wt_len : ∀ (A : List Ic), A.length ≤ wt A ∧ ∀ c ∈ A, c.bd.length ≤ wt A
  | [] => ⟨Nat.le_refl _, fun c hc => by cases hc⟩
  | a :: A => by
    have h := wt_len A
    rw [wt, List.length_cons]
    refine ⟨by omega, fun c hc => ?_⟩
    rcases List.mem_cons.1 hc with rfl | hc
    · omega
    · have := h.2 c hc; omega

theorem SameC.few {L : List It} {C : List Ic} (h : SameC L C) (hC : wt C ≤ 4000) : (∀ i, i < C.length → (L.getD i dI).len ≤ 1048576) ∧ sumL (fun i => L.getD i dI) C.length ≤ 1048576 := by
  have hl := h.len
  have hlen : ∀ i (hi : i < C.length), (L.getD i dI).len = (C[i]).bd.length := fun i hi => by
    obtain ⟨-, e⟩ := h.at' hi
    rw [← ct_len, e]
  have key : ∀ m, m ≤ C.length → sumL (fun i => L.getD i dI) m ≤ wt (C.take m) := by
    intro m
    induction m with
    | zero => intro _; exact Nat.zero_le _
    | succ m ih =>
      intro hm
      have h1 := ih (by omega)
      have h2 := hlen m (by omega)
      show sumL _ m + (L.getD m dI).len ≤ _
      rw [List.take_add_one, wt_app, List.getElem?_eq_getElem (show m < C.length by omega), h2]
      show _ ≤ _ + wt [C[m]]
      have : wt [C[m]] = 1 + (C[m]).bd.length + 0 := rfl
      omega
  refine ⟨fun i hi => ?_, ?_⟩
  · rw [hlen i hi]
    have := (wt_len C).2 _ (List.getElem_mem hi)
    omega
  · have := key C.length (Nat.le_refl _)
    rw [List.take_length] at this
    omega

/-- A new list of items that tell C, and two numbers. -/
def GivesJ (w : World) (C : List Ic) (c p : Int) (e : Ending) (w' : World) : Prop := ∃ a S cap L, e = .returned (.tuple #[.slice a C.length cap, .int .i64 c, .int .i64 p]) ∧ IOw w.heap.size w' a S 0 C.length (fun i => L.getD i dI) ∧ SameC L C ∧ Ext w w'

theorem GivesRd.j {w w' : World} {A : List Ic × Int × Int} {e : Ending} (h : GivesRd w A e w') (hA : wt A.1 ≤ 4000) : GivesJ w A.1 A.2.1 A.2.2 e w' := by
  obtain ⟨v, M, rfl, hL, hc, hE⟩ := h
  obtain ⟨a, S, cap, rfl, hI⟩ := hL.iow (fun t ht => by
    have h1 : ct t ∈ A.1 := by rw [← hc]; exact List.mem_map.2 ⟨t, ht, rfl⟩
    have := (wt_len A.1).2 _ h1
    rw [ct_len] at this
    omega)
  have hl := map_len hc
  rw [hl] at hI
  exact ⟨a, S, cap, M, by rw [hl], hI, ⟨hc, hL.bods.nf⟩, hE⟩

theorem Hdl.of_ext {w w' : World} (h : Hdl w) (e : Ext w w') : Hdl w' := (Below.cell e (p := ⟨0, 0, none⟩) (World.block_lt_of_cell? _ _ h)).trans h
end

section
set_option linter.unusedVariables false
set_option linter.unusedSimpArgs false

open Go.RowKit

/-- The bytes of the bodies of the items from s on, c of them. -/
def smL (x : Nat → It) (s : Nat) : Nat → Nat
  | 0 => 0
  | c + 1 => smL x s c + (x (s + c)).len

theorem smL_add (x : Nat → It) (s c d : Nat) : smL x s (c + d) = smL x s c + smL x (s + c) d := by
  induction d with
  | zero => rfl
  | succ d ih => rw [← Nat.add_assoc, smL, smL, ih, Nat.add_assoc, Nat.add_assoc]

theorem smL_one (x : Nat → It) (s : Nat) : smL x s 1 = (x s).len := by show 0 + (x (s + 0)).len = _; simp

theorem lgL_len (n : Nat) (h : (n : Int) ≤ 9223372036854775807) : 1 ≤ (lgL n).length ∧ (lgL n).length ≤ 10 := by
  have := lgN_le (n := (n : Int)) (by omega) h
  simpa [lgL] using this

theorem wrB_bounds {x : Nat → It} {g : Nat → List Int} {f : Nat → Int} (hg : ∀ s e : Nat, f s = e → s < e ∧ smL x s (e - s) ≤ (g s).length ∧ (g s).length ≤ smL x s (e - s) + 11 * (e - s)) (s : Nat) :
    ∀ (k e : Nat), kidsF f k (s : Int) = e → s ≤ e ∧ smL x s (e - s) ≤ (wrB g f s k).length ∧ (wrB g f s k).length ≤ smL x s (e - s) + 11 * (e - s)
  | 0, e, h => by
    have : (s : Int) = e := h
    obtain rfl : s = e := by omega
    rw [Nat.sub_self]
    exact ⟨Nat.le_refl _, Nat.le_refl _, Nat.le_refl _⟩
  | k + 1, e, h => by
    have h' : (if kidsF f k (s : Int) < 0 then -1 else f (kidsF f k (s : Int)).toNat) = e := h
    by_cases c : kidsF f k (s : Int) < 0
    · rw [if_pos c] at h'; omega
    · rw [if_neg c] at h'
      obtain ⟨z, hz⟩ : ∃ z : Nat, kidsF f k (s : Int) = z := ⟨(kidsF f k (s : Int)).toNat, by omega⟩
      rw [hz, Int.toNat_natCast] at h'
      obtain ⟨a1, a2, a3⟩ := wrB_bounds hg s k z hz
      obtain ⟨b1, b2, b3⟩ := hg z e h'
      have e1 : e - s = (z - s) + (e - z) := by omega
      have e2 : s + (z - s) = z := by omega
      rw [wrB, List.length_append, hz, Int.toNat_natCast, e1, smL_add, e2]
      omega

/-- An item's bytes: those of the bodies, and at most 11 more an item. -/
theorem wrF_bounds (x : Nat → It) (n : Nat) (hb : ∀ i, i < n → (x i).len ≤ 1048576) (hn : n ≤ 1048576) : ∀ (m i e : Nat), endF (fun j => (x j).kid) n m i = e → i < e ∧ smL x i (e - i) ≤ (wrF x n m i).length ∧ (wrF x n m i).length ≤ smL x i (e - i) + 11 * (e - i)
  | 0, i, e, h => by
    have : (-1 : Int) = e := h
    omega
  | m + 1, i, e, h => by
    have hi : i < n := endF_lt (kid := fun j => (x j).kid) (m := m + 1) (by rw [h]; omega)
    have h' : kidsF (endF (fun j => (x j).kid) n m) (x i).kid.toNat ((i : Int) + 1) = e := by
      rw [endF, if_neg (by omega)] at h
      exact h
    obtain ⟨a1, a2, a3⟩ := wrB_bounds (fun s e hs => wrF_bounds x n hb hn m s e hs) (i + 1) (x i).kid.toNat e (by rw [← h']; rfl)
    have e1 : e - i = 1 + (e - (i + 1)) := by omega
    have hen : (e : Int) ≤ n := by rw [← h]; exact (endF_range _ n (m + 1) i).2
    have hbo : (boL (x i)).length = (x i).len := by simp [boL]
    have hL : (wrF x n (m + 1) i).length = 1 + ((lgL ((x i).len + (wrB (wrF x n m) (endF (fun j => (x j).kid) n m) ((i + 1 : Nat) : Int) (x i).kid.toNat).length)).length + ((x i).len + (wrB (wrF x n m) (endF (fun j => (x j).kid) n m) ((i + 1 : Nat) : Int) (x i).kid.toNat).length)) := by
      rw [wrF, List.length_cons, List.length_append, List.length_append, hbo]
      rw [show ((i : Int) + 1) = ((i + 1 : Nat) : Int) from rfl]
      omega
    have hsm : ∀ (s c : Nat), s + c ≤ n → smL x s c ≤ 1048576 * c := fun s c => by
      induction c with
      | zero => intro _; exact Nat.le_refl _
      | succ c ih =>
        intro hc
        have h1 := ih (by omega)
        have h2 := hb (s + c) (by omega)
        rw [smL]
        omega
    have hs := hsm (i + 1) (e - (i + 1)) (by omega)
    obtain ⟨l1, l2⟩ := lgL_len ((x i).len + (wrB (wrF x n m) (endF (fun j => (x j).kid) n m) ((i + 1 : Nat) : Int) (x i).kid.toNat).length) (by have := hb i hi; omega)
    rw [hL, e1, smL_add, smL_one]
    omega
end

section
set_option linter.unusedVariables false
set_option linter.unusedSimpArgs false

open Go.RowKit

/-- What WriteDer answers. -/
def wdB (x : Nat → It) (n : Nat) : Bool := treeV x n && decide ((wrF x n 13 0).length ≤ 4000)

def wdL (x : Nat → It) (n : Nat) : List Int := if wdB x n then wrF x n 13 0 else []

def GivesWd (w : World) (L : List Int) (ok : Bool) (e : Ending) (w' : World) : Prop := ∃ v, e = .returned (.tuple #[v, .bool ok]) ∧ w'.ownsRow w.heap.size 5 1 v L.length (bl L) ∧ Ext w w'
end

section
set_option linter.unusedVariables false
set_option linter.unusedSimpArgs false

def byF (f : Nat → Int) (a c : Nat) : List Int := (List.range c).map (fun i => f (a + i))

theorem byF_len (f : Nat → Int) (a c : Nat) : (byF f a c).length = c := by simp [byF]

theorem byF_app (f : Nat → Int) (a c d : Nat) : byF f a (c + d) = byF f a c ++ byF f (a + c) d := by
  unfold byF
  rw [List.range_add, List.map_append, List.map_map]
  congr 1
  apply List.map_congr_left
  intro i _
  show f (a + (c + i)) = f (a + c + i)
  rw [Nat.add_assoc]

theorem byF_one (f : Nat → Int) (a c : Nat) : byF f a (c + 1) = f a :: byF f (a + 1) c := by
  rw [Nat.add_comm, byF_app]
  rfl

theorem wrB_front (G : Nat → List Int) (E : Nat → Int) (hE : ∀ i, -1 ≤ E i) (q : Nat) : ∀ c, wrB G E (q : Int) (c + 1) = G q ++ wrB G E (E q) c
  | 0 => by
    show [] ++ G ((q : Int)).toNat = G q ++ []
    simp
  | c + 1 => by
    rw [wrB, wrB_front G E hE q c, kidsF_front E hE q c, List.append_assoc]
    rfl

/-- The items from place q on are these. -/
def AtI (x : Nat → It) (q : Nat) (its : List Ic) : Prop := ∀ j c, its[j]? = some c → ct (x (q + j)) = c

theorem AtI.left {x : Nat → It} {q : Nat} {A B : List Ic} (h : AtI x q (A ++ B)) : AtI x q A := fun j c hj => h j c (by rw [List.getElem?_append_left (List.getElem?_eq_some_iff.1 hj).1]; exact hj)

theorem AtI.right {x : Nat → It} {q : Nat} {A B : List Ic} (h : AtI x q (A ++ B)) : AtI x (q + A.length) B := fun j c hj => by
  have := h (A.length + j) c (by rw [List.getElem?_append_right (by omega), Nat.add_sub_cancel_left]; exact hj)
  rwa [← Nat.add_assoc] at this

theorem AtI.tail {x : Nat → It} {q : Nat} {c0 : Ic} {B : List Ic} (h : AtI x q (c0 :: B)) : ct (x q) = c0 ∧ AtI x (q + 1) B := ⟨h 0 c0 rfl, fun j c hj => by
  have := h (j + 1) c (by simpa using hj)
  rwa [show q + 1 + j = q + (j + 1) by omega]⟩

section

variable {f : Nat → Int} {x : Nat → It} {n t : Nat} {rd : Nat → Rdr} {G : Nat → List Int} {E : Nat → Int}

end
end

section
set_option linter.unusedVariables false
set_option linter.unusedSimpArgs false

/-- An item that is well, with no more than N kids. -/
def gdC (N : Nat) (c : Ic) : Prop := 0 ≤ c.tag ∧ c.tag ≤ 255 ∧ c.tag % 32 ≠ 31 ∧ 0 ≤ c.kid ∧ c.kid ≤ N ∧ (c.tag / 32 % 2 = 1 → c.bd = []) ∧ (c.tag / 32 % 2 ≠ 1 → c.kid = 0)

theorem gdC.mono {N M : Nat} {c : Ic} (h : gdC N c) (k : N ≤ M) : gdC M c := ⟨h.1, h.2.1, h.2.2.1, h.2.2.2.1, by have := h.2.2.2.2.1; omega, h.2.2.2.2.2⟩

theorem mdT_iff (t : Int) : mdT t = true ↔ t / 32 % 2 = 1 := by unfold mdT; exact decide_eq_true_iff
end

section
set_option linter.unusedVariables false
set_option linter.unusedSimpArgs false

/-- What l items from place q on tell. -/
def sgI (x : Nat → It) (q l : Nat) : List Ic := (List.range l).map (fun j => ct (x (q + j)))

theorem sgI_len (x : Nat → It) (q l : Nat) : (sgI x q l).length = l := by simp [sgI]

theorem sgI_app (x : Nat → It) (q a b : Nat) : sgI x q (a + b) = sgI x q a ++ sgI x (q + a) b := by
  unfold sgI
  rw [List.range_add, List.map_append, List.map_map]
  congr 1
  apply List.map_congr_left
  intro i _
  show ct (x (q + (a + i))) = ct (x (q + a + i))
  rw [Nat.add_assoc]

theorem sgI_one (x : Nat → It) (q l : Nat) : sgI x q (l + 1) = ct (x q) :: sgI x (q + 1) l := by
  rw [Nat.add_comm, sgI_app]
  rfl

theorem lgL_at {f : Nat → Int} {a L : Nat} (hb : lgL L = byF f a (lgN L)) {j : Nat} (hj : j < lgN L) : f (a + j) = lgF L j := by
  have := congrArg (fun l => l.getD j 0) hb
  simp [lgL, byF, hj] at this
  exact this.symm

/-- A length that is written is read. -/
theorem lnR_fwd {f : Nat → Int} {a E L : Nat} (hL : L < 65536) (hb : lgL L = byF f (a + 1) (lgN L)) (hE : a + 1 + lgN L ≤ E) : lnR f a E = (L, a + 1 + lgN L, 0) := by
  unfold lnR
  by_cases c1 : (L : Int) < 128
  · obtain ⟨g1, g2⟩ := lg_low c1
    rw [g1] at hE
    have e1 := lgL_at hb (j := 0) (by omega)
    rw [g2 0 (by omega), Nat.add_zero] at e1
    rw [if_neg (by omega), if_pos (by omega), e1, g1]
    simp
  · by_cases c2 : (L : Int) < 256
    · obtain ⟨g1, g2, g3⟩ := lg_mid (by omega) c2
      rw [g1] at hE
      have e1 := lgL_at hb (j := 0) (by omega)
      have e2 := lgL_at hb (j := 1) (by omega)
      rw [g2, Nat.add_zero] at e1
      rw [g3, show a + 1 + 1 = a + 2 from rfl] at e2
      rw [if_neg (by omega), if_neg (by omega), if_neg (by omega), if_neg (by omega), if_pos e1, if_neg (by omega), e2, g1]
      simp
    · obtain ⟨g1, g2, g3, g4⟩ := lg_high (n := (L : Int)) (by omega) (by omega)
      rw [g1] at hE
      have e1 := lgL_at hb (j := 0) (by omega)
      have e2 := lgL_at hb (j := 1) (by omega)
      have e3 := lgL_at hb (j := 2) (by omega)
      rw [g2, Nat.add_zero] at e1
      rw [g3, show a + 1 + 1 = a + 2 from rfl] at e2
      rw [g4, show a + 1 + 2 = a + 3 from rfl] at e3
      rw [if_neg (by omega), if_neg (by omega), if_neg (by omega), if_neg (by omega), if_neg (by omega), if_neg (by omega), e2, e3, g1]
      have : (256 * ((L : Int) / 256) + (L : Int) % 256).toNat = L := by omega
      rw [this]

/-- An item's first bytes, as they are written, are well. -/
theorem hdC_fwd {f : Nat → Int} {a E d L : Nat} (hL : L < 65536) (hb : lgL L = byF f (a + 1) (lgN L)) (hE : a + 1 + lgN L + L ≤ E) (hd : d ≤ 12) (ht : f a % 32 ≠ 31) : (hdC f a E d).1 = 0 ∧ hdS f a E = a + 1 + lgN L ∧ hdE f a E = a + 1 + lgN L + L := by
  have h := lnR_fwd hL hb (E := E) (by omega)
  have g : (hdC f a E d) = (0, 0) := by
    unfold hdC
    rw [if_neg (by omega), if_neg ht, if_neg (by omega), h]
    rw [if_neg (by show ¬ (0 : Int) = 2; decide), if_neg (by show ¬ (0 : Int) = 4; decide), if_neg (by show ¬ E < a + 1 + lgN L + L; omega)]
  refine ⟨by rw [g], ?_, ?_⟩
  · unfold hdS; rw [h]
  · unfold hdE; rw [h]

theorem byF_split {f : Nat → Int} {a : Nat} {A B : List Int} (h : A ++ B = byF f a (A ++ B).length) : A = byF f a A.length ∧ B = byF f (a + A.length) B.length := by
  rw [List.length_append, byF_app] at h
  exact List.append_inj h (by rw [byF_len])

section

variable {f : Nat → Int} {x : Nat → It} {n t : Nat} {rd : Nat → Rdr} {G : Nat → List Int} {E : Nat → Int}

/-- Kids that are written one behind the other are read. -/
theorem kids_fwd (hE : ∀ i, -1 ≤ E i) (hE1 : ∀ i, 0 ≤ E i → (i : Int) + 1 ≤ E i) (hG : ∀ i, 0 ≤ E i → 2 ≤ (G i).length)
    (hI : ∀ a q, 0 ≤ E q → G q = byF f a (G q).length → a + (G q).length ≤ t → (rd a).code = 0 ∧ (rd a).nx = a + (G q).length ∧ (rd a).its = sgI x q ((E q).toNat - q)) :
    ∀ (c m a q : Nat), 0 ≤ kidsF E c (q : Int) → wrB G E (q : Int) c = byF f a (wrB G E (q : Int) c).length → a + (wrB G E (q : Int) c).length = t → (wrB G E (q : Int) c).length ≤ m →
      (rdK rd t m a).1.code = 0 ∧ (rdK rd t m a).1.nx = t ∧ (rdK rd t m a).2 = c ∧ (rdK rd t m a).1.its = sgI x q ((kidsF E c (q : Int)).toNat - q) ∧ (q : Int) ≤ kidsF E c (q : Int)
  | 0, m, a, q, h0, hb, ht, hm => by
    have hw : wrB G E (q : Int) 0 = [] := rfl
    rw [hw] at ht
    have ht' : a = t := ht
    subst ht'
    have hz : (rdK rd a m a) = (⟨[], [], a, 0, 0⟩, 0) := by
      cases m with
      | zero => rfl
      | succ m => rw [rdK, if_pos (Nat.le_refl _)]
    rw [hz]
    refine ⟨rfl, rfl, rfl, ?_, ?_⟩
    · show [] = sgI x q (((q : Int)).toNat - q)
      rw [Int.toNat_natCast, Nat.sub_self]
      rfl
    · exact Int.le_refl _
  | c + 1, m, a, q, h0, hb, ht, hm => by
    rw [wrB_front G E hE q c] at hb ht hm
    have hk : kidsF E (c + 1) (q : Int) = kidsF E c (E q) := by rw [kidsF_front E hE]
    rw [hk] at h0 ⊢
    have hq : 0 ≤ E q := by
      by_cases h : 0 ≤ E q
      · exact h
      · have := hE q
        rw [show E q = -1 by omega, kidsF_minus] at h0
        omega
    obtain ⟨e, he⟩ := nat_of hq
    have hqe := hE1 q hq
    obtain ⟨b1, b2⟩ := byF_split hb
    rw [List.length_append] at ht hm
    have hg := hG q hq
    obtain ⟨i1, i2, i3⟩ := hI a q hq b1 (by omega)
    rw [he] at h0 b2 ht hm hqe i3 ⊢
    obtain ⟨m, rfl⟩ : ∃ m', m = m' + 1 := ⟨m - 1, by omega⟩
    obtain ⟨k1, k2, k3, k4, k5⟩ := kids_fwd hE hE1 hG hI c m (a + (G q).length) e h0 b2 (by omega) (by omega)
    rw [rdK, if_neg (by omega), if_neg (fun h => h i1), i2, if_neg (fun h => h k1)]
    refine ⟨rfl, k2, by rw [k3], ?_, by omega⟩
    show (rd a).its ++ (rdK rd t m (a + (G q).length)).1.its = _
    rw [i3, k4]
    have e1 : (kidsF E c (e : Int)).toNat - q = (e - q) + ((kidsF E c (e : Int)).toNat - e) := by omega
    rw [e1, sgI_app, Int.toNat_natCast, show q + (e - q) = e by omega]

end

theorem wrF_two (x : Nat → It) (n m i : Nat) (h : 0 ≤ endF (fun j => (x j).kid) n m i) : 2 ≤ (wrF x n m i).length := by
  cases m with
  | zero => simp [endF] at h
  | succ m =>
    rw [wrF, List.length_cons, List.length_append]
    have : 1 ≤ (lgL (boL (x i) ++ wrB (wrF x n m) (endF (fun j => (x j).kid) n m) ((i : Int) + 1) (x i).kid.toNat).length).length := by
      unfold lgL
      rw [List.length_map, List.length_range]
      unfold lgN
      split <;> omega
    omega

set_option maxRecDepth 100000 in
/-- An item that is written is read. -/
theorem item_fwd (f : Nat → Int) (x : Nat → It) (n : Nat) (hx : ∀ i, i < n → itGood (x i)) : ∀ m a E d q, d + (m + 1) = 14 → 0 ≤ endF (fun j => (x j).kid) n m q → E < 65536 → wrF x n m q = byF f a (wrF x n m q).length → a + (wrF x n m q).length ≤ E →
    (rdT f (m + 1) a E d).code = 0 ∧ (rdT f (m + 1) a E d).nx = a + (wrF x n m q).length ∧ (rdT f (m + 1) a E d).its = sgI x q ((endF (fun j => (x j).kid) n m q).toNat - q) := by
  intro m
  induction m with
  | zero => intro a E d q _ h; simp [endF] at h
  | succ m ih =>
    intro a E d q hd h0 hl hb hE
    have hqn : q < n := endF_lt h0
    have hg := hx q hqn
    have he : endF (fun j => (x j).kid) n (m + 1) q = kidsF (endF (fun j => (x j).kid) n m) (x q).kid.toNat ((q : Int) + 1) := by rw [endF, if_neg (by omega)]
    rw [he] at h0 ⊢
    rw [show ((q : Int) + 1) = ((q + 1 : Nat) : Int) by omega] at h0 ⊢
    rw [wrF, show ((q : Int) + 1) = ((q + 1 : Nat) : Int) by omega] at hb hE ⊢
    obtain ⟨W, hW⟩ : ∃ W, boL (x q) ++ wrB (wrF x n m) (endF (fun j => (x j).kid) n m) ((q + 1 : Nat) : Int) (x q).kid.toNat = W := ⟨_, rfl⟩
    rw [hW] at hb hE ⊢
    have hlg : (lgL W.length).length = lgN W.length := by unfold lgL; rw [List.length_map, List.length_range]
    rw [List.length_cons, List.length_append, hlg] at hE ⊢
    have hb1 : (x q).tag = f a ∧ lgL W.length ++ W = byF f (a + 1) (lgL W.length ++ W).length := by
      rw [List.length_cons, byF_one] at hb
      injection hb with h1 h2
      exact ⟨h1, h2⟩
    obtain ⟨b1, b2⟩ := byF_split hb1.2
    rw [hlg] at b1 b2
    have ht := hb1.1
    obtain ⟨H1, H2, H3⟩ := hdC_fwd (d := d) (E := E) (by omega) b1 (by omega) (by omega) (by rw [← ht]; exact hg.2.2.1)
    rw [rdT, if_neg (fun h => h H1)]
    by_cases hm : mdT (f a) = false
    · rw [if_pos hm]
      have hk0 : (x q).kid = 0 := hg.2.2.2.2.2.2 (by rw [ht]; intro e; rw [(mdT_iff _).2 e] at hm; cases hm)
      rw [hk0] at hW ⊢
      have hW' : boL (x q) = W := by rw [← hW]; show _ = _ ++ []; rw [List.append_nil]
      refine ⟨rfl, by show hdE f a E = _; omega, ?_⟩
      show [itH f (hdOf f a E d)] = sgI x q ((((q + 1 : Nat) : Int)).toNat - q)
      rw [Int.toNat_natCast, show q + 1 - q = 0 + 1 by omega, sgI_one]
      have : itH f (hdOf f a E d) = ct (x q) := by
        unfold itH hdOf
        show (⟨f a, 0, if mdT (f a) then [] else (List.range (hdE f a E - hdS f a E)).map (fun i => f (hdS f a E + i))⟩ : Ic) = ct (x q)
        rw [hm, H2, H3, show a + 1 + lgN W.length + W.length - (a + 1 + lgN W.length) = W.length by omega]
        show (⟨f a, 0, byF f (a + 1 + lgN W.length) W.length⟩ : Ic) = ⟨(x q).tag, (x q).kid, boL (x q)⟩
        rw [← b2, ht, hk0, hW']
      rw [this]
      rfl
    · rw [if_neg hm]
      have hm1 : mdT (f a) = true := by simpa using hm
      have hlen : (x q).len = 0 := hg.2.2.2.2.2.1 (by rw [ht]; exact (mdT_iff _).1 hm1)
      have hbo : boL (x q) = [] := by unfold boL; rw [hlen]; rfl
      rw [hbo, List.nil_append] at hW
      rw [H2, H3]
      have K := kids_fwd (f := f) (x := x) (t := a + 1 + lgN W.length + W.length) (rd := fun y => rdT f (m + 1) y (a + 1 + lgN W.length + W.length) (d + 1)) (G := wrF x n m) (E := endF (fun j => (x j).kid) n m) (fun i => (endF_range _ n m i).1) (fun i hi => endF_far _ n m i hi) (fun i hi => wrF_two x n m i hi)
        (fun a' q' h1 h2 h3 => ih a' (a + 1 + lgN W.length + W.length) (d + 1) q' (by omega) h1 (by omega) h2 h3) (x q).kid.toNat W.length (a + 1 + lgN W.length) (q + 1) h0 (by rw [hW]; exact b2) (by rw [hW]) (by rw [hW]; exact Nat.le_refl _)
      rw [show a + 1 + lgN W.length + W.length - (a + 1 + lgN W.length) = W.length by omega]
      obtain ⟨k1, k2, k3, k4, k5⟩ := K
      rw [if_neg (fun h => h k1)]
      refine ⟨rfl, by show a + 1 + lgN W.length + W.length = _; omega, ?_⟩
      show (⟨f a, _, []⟩ : Ic) :: _ = _
      rw [k4, k3]
      have e1 : (kidsF (endF (fun j => (x j).kid) n m) (x q).kid.toNat ((q + 1 : Nat) : Int)).toNat - q = ((kidsF (endF (fun j => (x j).kid) n m) (x q).kid.toNat ((q + 1 : Nat) : Int)).toNat - (q + 1)) + 1 := by omega
      rw [e1, sgI_one]
      congr 1
      show _ = (⟨(x q).tag, (x q).kid, boL (x q)⟩ : Ic)
      rw [hbo, ht]
      have := hg.2.2.2.1
      rw [Int.toNat_of_nonneg this]

/-- A right tree that is not too long is read as itself. -/
theorem tree_fwd (x : Nat → It) (n : Nat) (f : Nat → Int) (hw : wdB x n = true) (hf : wdL x n = byF f 0 (wdL x n).length) : rdA f (wdL x n).length = (sgI x 0 n, 0, 0) := by
  have hw2 : wdL x n = wrF x n 13 0 := by unfold wdL; rw [hw, if_pos rfl]
  have hw3 := hw
  unfold wdB at hw3
  rw [Bool.and_eq_true, decide_eq_true_eq] at hw3
  obtain ⟨ht, hl⟩ := hw3
  have hg := tree_good ht
  unfold treeV at ht
  rw [decide_eq_true_eq] at ht
  have he := ht.2.2.2
  rw [hw2] at hf ⊢
  obtain ⟨h1, h2, h3⟩ := item_fwd f x n hg.2.2 13 0 (wrF x n 13 0).length 0 0 rfl (by rw [he]; omega) (by omega) hf (by omega)
  rw [he, Int.toNat_natCast, Nat.sub_zero] at h3
  have hn := hg.2.1
  unfold rdA
  rw [if_neg (by omega), if_neg (fun h => h h1), h3, sgI_len, if_neg (by omega), h2, if_neg (by omega)]
end

end Go.Proofs.YtmcdikbcmikihaaDoor
