/- The program's steps over bytes, in plain numbers: what its iterator tells, and what a caller may rely on. Walk: slices.Reverse over bytes of one's own. Walks: IntBytes of the model and of the program. Walks: a number's digits by a base: inBase, oidNumberBytes of the program; l7Seven of the model. Walks: the bytes of a length, of both. -/
import Derived.Test.YtkogbinfhoiggaaGreatDoorCx05
namespace Go.Proofs.YtkogbinfhoiggaaGreatDoor
set_option linter.unusedVariables false
set_option linter.unusedSimpArgs false
section
def tel (H : List Hed) (c p : Int) : List (Hed ⊕ (Int × Int)) := H.map .inl ++ (if c = 0 then [] else [.inr (c, p)])
theorem tel_len (H : List Hed) (c p : Int) : (tel H c p).length ≤ H.length + 1 := by
 unfold tel
 split <;> simp
theorem beh_sub : ∀ {a : Nat} {es es' : List Nat}, beh a es = some es' → es' <:+ es ∧ 2 ≤ es'.length ∧ (∃ e r, es' = e :: r ∧ a < e)
 | a, [], es', h => by simp [beh] at h
 | a, [e], es', h => by simp [beh] at h
 | a, e :: e2 :: r, es', h => by
  rw [beh] at h
  split at h
  ·rename_i hlt
   obtain rfl := Option.some.inj h
   exact ⟨List.suffix_refl _, by simp, e, _, rfl, hlt⟩
  ·obtain ⟨h1, h2, h3⟩ := beh_sub h
   exact ⟨h1.trans (List.suffix_cons _ _), h2, h3⟩
theorem run_next {f : Nat → Int} {h : Hed} {H : List Hed} {a : Nat} {es : List Nat} {c p : Int} (k : Run f a es (h :: H) c p) :
  ∃ e r, es = e :: r ∧ (hdC f a e r.length).1 = 0 ∧ h = hdOf f a e r.length ∧ Goes f (if mdT (f a) then hdS f a e else hdE f a e) (if mdT (f a) then hdE f a e :: e :: r else e :: r) H c p := k
structure HedOk (f : Nat → Int) (bn : Nat) (h : Hed) : Prop where
 tg : ∃ a, a < bn ∧ h.tag = f a
 se : h.st ≤ h.en
 en : h.en ≤ bn
 ar : h.ar ≤ 12
theorem run_ok {f : Nat → Int} {bn : Nat} : ∀ (H : List Hed) (a : Nat) (es : List Nat) (c p : Int), Run f a es H c p → (∀ e ∈ es, e ≤ bn) → a ≤ bn → 2 * H.length + a ≤ bn ∧ ∀ h ∈ H, HedOk f bn h
 | [], a, es, c, p, _, _, ha => ⟨by simpa using ha, fun h hh => by cases hh⟩
 | h :: H, a, es, c, p, k, he, ha => by
  obtain ⟨e, r, rfl, h0, rfl, hg⟩ := run_next k
  have g := hdC_ok h0
  have he1 := he e (List.mem_cons.2 (.inl rfl))
  have hok : HedOk f bn (hdOf f a e r.length) := ⟨⟨a, by omega, rfl⟩, g.2.2.2.2.2.2, Nat.le_trans g.2.2.2.2.1 he1, g.2.2.1⟩
  have hes : ∀ x ∈ (if mdT (f a) then hdE f a e :: e :: r else e :: r), x ≤ bn := by
   intro x hx
   split at hx
   ·rcases List.mem_cons.1 hx with rfl | hx
    ·exact Nat.le_trans g.2.2.2.2.1 he1
    ·exact he x hx
   ·exact he x hx
  have ha2 : (if mdT (f a) then hdS f a e else hdE f a e) ≤ bn ∧ a + 2 ≤ (if mdT (f a) then hdS f a e else hdE f a e) := by
   split <;> omega
  generalize (if mdT (f a) then hdS f a e else hdE f a e) = a2 at *
  generalize (if mdT (f a) then hdE f a e :: e :: r else e :: r) = es2 at *
  rcases hg with ⟨-, rfl, -, -⟩ | ⟨es', hb, hr⟩
  ·exact ⟨by simp; omega, fun x hx => by rcases List.mem_cons.1 hx with rfl | hx; exact hok; cases hx⟩
  ·have ih := run_ok H a2 es' c p hr (fun x hx => hes x ((beh_sub hb).1.subset hx)) ha2.1
   exact ⟨by rw [List.length_cons]; omega, fun x hx => by rcases List.mem_cons.1 hx with rfl | hx; exact hok; exact ih.2 x hx⟩
theorem run_ar {f : Nat → Int} : ∀ (H : List Hed) (a : Nat) (es : List Nat) (c p : Int), Run f a es H c p → 2 ≤ es.length → ∀ h ∈ H, 0 < h.ar
 | [], _, _, _, _, _, _, h, hh => by cases hh
 | h :: H, a, es, c, p, k, he, x, hx => by
  obtain ⟨e, r, rfl, h0, rfl, hg⟩ := run_next k
  rcases List.mem_cons.1 hx with rfl | hx
  ·show 0 < r.length
   simp at he
   omega
  ·rcases hg with ⟨-, rfl, -, -⟩ | ⟨es', hb, hr⟩
   ·cases hx
   ·exact run_ar H _ es' c p hr (beh_sub hb).2.1 x hx
def topF (t : Nat) (h : Hed) : Nat := if h.ar = 0 then h.en else t
theorem top_same : ∀ (H : List Hed) (t : Nat), (∀ h ∈ H, 0 < h.ar) → H.foldl topF t = t
 | [], _, _ => rfl
 | h :: H, t, k => by
  have := k h (List.mem_cons.2 (.inl rfl))
  rw [List.foldl_cons]
  show H.foldl topF (if h.ar = 0 then h.en else t) = t
  rw [if_neg (by omega)]
  exact top_same H t (fun x hx => k x (List.mem_cons.2 (.inr hx)))
theorem run_top {f : Nat → Int} {h : Hed} {H : List Hed} {a e : Nat} {c p : Int} (k : Run f a [e] (h :: H) c p) : (h :: H).foldl topF 0 = h.en := by
 obtain ⟨e', r, he, h0, rfl, hg⟩ := run_next k
 simp only [List.cons.injEq] at he
 obtain ⟨rfl, rfl⟩ := he
 rw [List.foldl_cons]
 have e1 : topF 0 (hdOf f a e ([] : List Nat).length) = (hdOf f a e ([] : List Nat).length).en := by
  unfold topF
  exact if_pos (show (hdOf f a e ([] : List Nat).length).ar = 0 from rfl)
 rw [e1]
 refine top_same H _ ?_
 rcases hg with ⟨-, rfl, -, -⟩ | ⟨es', hb, hr⟩
 ·intro h hh; cases hh
 ·exact run_ar H _ es' c p hr (beh_sub hb).2.1
theorem addH_low {f : Nat → Int} {S : List Ic × List Nat} (h : Hed) (k : ∀ q ∈ S.2, q < S.1.length) : ∀ q ∈ (addH f S h).2, q < (addH f S h).1.length := by
 intro q hq
 unfold addH at hq ⊢
 rw [List.length_append, bmpL_len]
 rcases List.mem_append.1 hq with hq | hq
 ·have := k q (List.mem_of_mem_take hq)
  simp
  omega
 ·rw [List.mem_singleton] at hq
  simp
  omega
theorem addH_low_all {f : Nat → Int} : ∀ (H : List Hed) (S : List Ic × List Nat), (∀ q ∈ S.2, q < S.1.length) → ∀ q ∈ (H.foldl (addH f) S).2, q < (H.foldl (addH f) S).1.length
 | [], S, k => k
 | h :: H, S, k => addH_low_all H _ (addH_low h k)
theorem addH_len {f : Nat → Int} : ∀ (H : List Hed) (S : List Ic × List Nat), (H.foldl (addH f) S).1.length = S.1.length + H.length
 | [], S => rfl
 | h :: H, S => by
  rw [List.foldl_cons, addH_len H, List.length_cons]
  unfold addH
  rw [List.length_append, bmpL_len]
  simp
  omega
theorem addH_line {f : Nat → Int} {S : List Ic × List Nat} {h : Hed} (k : h.ar ≤ S.2.length) : (addH f S h).2.length = h.ar + 1 := by
 unfold addH
 rw [List.length_append, List.length_take]
 simp
 omega
theorem run_line {f : Nat → Int} : ∀ (H : List Hed) (a : Nat) (es : List Nat) (c p : Int) (S : List Ic × List Nat), Run f a es H c p → es.length ≤ S.2.length + 1 →
  ∀ (pre : List Hed) (h : Hed), pre ++ [h] <+: H → h.ar ≤ (pre.foldl (addH f) S).2.length
 | [], a, es, c, p, S, k, he, pre, h, hp => by
  have := hp.length_le
  simp at this
 | x :: H, a, es, c, p, S, k, he, pre, h, hp => by
  obtain ⟨e, r, rfl, h0, rfl, hg⟩ := run_next k
  have har : (hdOf f a e r.length).ar ≤ S.2.length := by
   show r.length ≤ _
   simp at he
   omega
  cases pre with
  | nil =>
   obtain ⟨t, ht⟩ := hp
   simp only [List.nil_append, List.cons_append, List.cons.injEq] at ht
   rw [ht.1]
   exact har
  | cons y pre =>
   obtain ⟨t, ht⟩ := hp
   simp only [List.cons_append, List.cons.injEq] at ht
   obtain ⟨rfl, ht⟩ := ht
   rw [List.foldl_cons]
   have hl := addH_line (f := f) har
   rcases hg with ⟨-, rfl, -, -⟩ | ⟨es', hb, hr⟩
   ·simp at ht
   ·refine run_line H _ es' c p _ hr ?_ pre h ⟨t, by rw [← ht]⟩
    rw [hl]
    have hs := (beh_sub hb).1.length_le
    show es'.length ≤ r.length + 1 + 1
    split at hs <;> simp at hs <;> omega
theorem run_right (f : Nat → Int) (bn : Nat) (h : (rdT f 14 0 bn 0).code = 0) :
  Run f 0 [bn] (rdT f 14 0 bn 0).hs 0 0 ∧ ((rdT f 14 0 bn 0).hs.foldl (addH f) ([], [])).1 = (rdT f 14 0 bn 0).its ∧ (rdT f 14 0 bn 0).hs.foldl topF 0 = (rdT f 14 0 bn 0).nx := by
 have h1 := (sim_I f 13 0 bn [] rfl).2 h [] 0 0 (.inl ⟨rfl, rfl, rfl, rfl⟩)
 rw [List.append_nil] at h1
 have hl : ([] : List Nat).length = 0 := rfl
 rw [hl] at h1
 refine ⟨h1, ?_, ?_⟩
 ·obtain ⟨rest, e⟩ := fold_I f 14 0 bn 0 h [] [] (Nat.zero_le _) (fun h => absurd h (Nat.lt_irrefl _))
  rw [e]
  rfl
 ·have e : (∃ H, (rdT f 14 0 bn 0).hs = hdOf f 0 bn 0 :: H) ∧ (rdT f 14 0 bn 0).nx = hdE f 0 bn := by
   rw [rdT] at h ⊢
   by_cases hd : (hdC f 0 bn 0).1 = 0
   ·rw [if_neg (fun k => k hd)] at h ⊢
    by_cases hm : mdT (f 0) = false
    ·rw [if_pos hm]
     exact ⟨⟨_, rfl⟩, rfl⟩
    ·rw [if_neg hm] at h ⊢
     split at h
     ·rename_i h3; exact absurd h h3
     ·rename_i h3
      rw [if_neg h3]
      exact ⟨⟨_, rfl⟩, rfl⟩
   ·rw [if_pos hd] at h
    exact absurd h hd
  obtain ⟨⟨H, e1⟩, e2⟩ := e
  rw [e1] at h1 ⊢
  rw [run_top h1, e2]
  rfl
theorem run_wrong (f : Nat → Int) (bn : Nat) (h : (rdT f 14 0 bn 0).code ≠ 0) : ∃ H, Run f 0 [bn] H (rdT f 14 0 bn 0).code (rdT f 14 0 bn 0).pl :=
 (sim_I f 13 0 bn [] rfl).1 h
end
section
open Go.RowKit
def revF (f : Nat → Int) (n i : Nat) (k : Nat) : Int := if k < i ∨ n - i ≤ k then f (n - 1 - k) else f k
set_option maxHeartbeats 1600000 in
set_option maxRecDepth 100000 in
theorem rev_any (a : Option Addr) (g off n cap : Nat) (f : Nat → Int) (w : World) (hs : BOwn w a g off n f) (hn : n ≤ 1048576) :
  Calls Tryz.prog 138 #[.slice a n cap] w fun e w' => e = .returned (.tuple #[]) ∧ BOwn w' a g off n (fun i => f (n - 1 - i)) ∧ Touch g w w' := by
 go_enter Tryz.func138, Tryz.ntmps138
 go_wp2
 go_loopw [2, 3] (fun s2 s3 wr => ∃ i : Nat, 2 * i ≤ n + 1 ∧ s2 = .int .i64 i ∧ s3 = .int .i64 ((n : Int) - 1 - i) ∧ BOwn wr a g off n (revF f n i) ∧ Touch g w wr) (fun s2 _ _ => n - (intOf s2).toNat)
 case atStart => exact ⟨0, by omega, rfl, by go_num, hs.congr (fun k hk => by unfold revF; rw [if_neg (by omega)]), Touch.refl _ _⟩
 case round =>
  obtain ⟨i, hi, rfl, rfl, hO, hT⟩ := hrel
  by_cases hlt : (i : Int) < (n : Int) - 1 - i
  ·obtain ⟨j, hj⟩ : ∃ j, n - 1 - i = j := ⟨_, rfl⟩
   have hjz : (n : Int) - 1 - i = (j : Int) := by omega
   have hij : (i : Int) < j := by omega
   obtain rfl := hs.at' (by omega)
   have ci := hO.cell i (by omega)
   have fi := hO.free i (by omega)
   have cj := hO.cell j (by omega)
   have fj := hO.free j (by omega)
   have hi' : (i : Int) < n := by omega
   have hj' : (j : Int) < n := by omega
   have HO := hide hO
   have HT := hide hT
   have Hj := hide hj
   have HC := hide ((hO.set (show i < n by omega) (revF f n i j)).set (show j < n by omega) (revF f n i i))
   have hT2 := hide ((hT.set (off + i) (.int .u8 (revF f n i j))).set (off + j) (.int .u8 (revF f n i i)))
   rw [hjz]
   clear hO hT hs hj hjz hlt
   go_wp2_with fail
   go_region
   go_wp2
   go_roundw
   case rel =>
    have h1 := Hj.out
    refine ⟨i + 1, by omega, by go_num, by go_num, (HC.out.congr (fun k hk => ?_)).of_all (Below.drew (Below.refl _ _)), hT2.out.drew 1⟩
    unfold revF
    by_cases e1 : k = j
    ·subst e1
     rw [if_pos rfl, if_neg (by omega), if_pos (by omega)]
     congr 1; omega
    ·rw [if_neg e1]
     by_cases e2 : k = i
     ·subst e2
      rw [if_pos rfl, if_neg (by omega), if_pos (by omega)]
      congr 1; omega
     ·rw [if_neg e2]
      by_cases e3 : k < i ∨ n - i ≤ k
      ·rw [if_pos e3, if_pos (by omega)]
      ·rw [if_neg e3, if_neg (by omega)]
   case measure => simp [intOf]; omega
  ·go_wp2
   go_end0
   refine ⟨rfl, hO.congr (fun k hk => ?_), hT⟩
   unfold revF
   split
   ·rfl
   ·congr 1; omega
def GivesBi (w : World) (M : Nat) (F : Nat → Int) (e : Ending) (w' : World) : Prop :=
 ∃ a g cap, e = .returned (.slice a M cap) ∧ w.heap.size ≤ g ∧ BOwn w' a g 0 M F ∧ Below w.heap.size w w'
def small (n : Int) : Bool := decide (-128 ≤ n) && decide (n ≤ 127)
def hi8 (n : Int) : Nat → Int
 | 0 => n
 | k + 1 => hi8 n k / 256
def ib (n : Int) (k : Nat) : Int := hi8 n k % 256
structure IsLen (n : Int) (L : Nat) : Prop where
 yes : small (hi8 n L) = true
 no : ∀ j, j < L → small (hi8 n j) = false
 le : L ≤ 7
def ilen (n : Int) : Nat := if small n then 0 else if small (hi8 n 1) then 1 else if small (hi8 n 2) then 2 else if small (hi8 n 3) then 3 else if small (hi8 n 4) then 4 else if small (hi8 n 5) then 5 else if small (hi8 n 6) then 6 else 7
theorem hi8_bound (n : Int) (h0 : -9223372036854775808 ≤ n) (h1 : n ≤ 9223372036854775807) (k : Nat) : -9223372036854775808 ≤ hi8 n k ∧ hi8 n k ≤ 9223372036854775807 := by
 induction k with
 | zero => exact ⟨h0, h1⟩
 | succ k ih => simp only [hi8]; omega
theorem ilen_is (n : Int) (h0 : -9223372036854775808 ≤ n) (h1 : n ≤ 9223372036854775807) : IsLen n (ilen n) := by
 have e7 : small (hi8 n 7) = true := by
  have : hi8 n 7 = n / 256 / 256 / 256 / 256 / 256 / 256 / 256 := rfl
  simp only [this, small, Bool.and_eq_true, decide_eq_true_eq]
  omega
 have lt (j L : Nat) (h : j < L) (hL : L ≤ 7) : j = 0 ∨ j = 1 ∨ j = 2 ∨ j = 3 ∨ j = 4 ∨ j = 5 ∨ j = 6 := by omega
 unfold ilen
 have s0 : small n = small (hi8 n 0) := rfl
 rw [s0]
 cases c0 : small (hi8 n 0)
 ·cases c1 : small (hi8 n 1)
  ·cases c2 : small (hi8 n 2)
   ·cases c3 : small (hi8 n 3)
    ·cases c4 : small (hi8 n 4)
     ·cases c5 : small (hi8 n 5)
      ·cases c6 : small (hi8 n 6)
       ·exact ⟨e7, fun j hj => by have : j < 7 := hj; rcases lt j 7 this (by omega) with rfl | rfl | rfl | rfl | rfl | rfl | rfl <;> assumption, by simp⟩
       ·exact ⟨c6, fun j hj => by have : j < 6 := hj; rcases lt j 6 this (by omega) with rfl | rfl | rfl | rfl | rfl | rfl | rfl <;> first | assumption | omega, by simp⟩
      ·exact ⟨c5, fun j hj => by have : j < 5 := hj; rcases lt j 5 this (by omega) with rfl | rfl | rfl | rfl | rfl | rfl | rfl <;> first | assumption | omega, by simp⟩
     ·exact ⟨c4, fun j hj => by have : j < 4 := hj; rcases lt j 4 this (by omega) with rfl | rfl | rfl | rfl | rfl | rfl | rfl <;> first | assumption | omega, by simp⟩
    ·exact ⟨c3, fun j hj => by have : j < 3 := hj; rcases lt j 3 this (by omega) with rfl | rfl | rfl | rfl | rfl | rfl | rfl <;> first | assumption | omega, by simp⟩
   ·exact ⟨c2, fun j hj => by have : j < 2 := hj; rcases lt j 2 this (by omega) with rfl | rfl | rfl | rfl | rfl | rfl | rfl <;> first | assumption | omega, by simp⟩
  ·exact ⟨c1, fun j hj => by have : j < 1 := hj; rcases lt j 1 this (by omega) with rfl | rfl | rfl | rfl | rfl | rfl | rfl <;> first | assumption | omega, by simp⟩
 ·exact ⟨c0, fun j hj => by have : j < 0 := hj; omega, by simp⟩
theorem small_true {n : Int} (h : small n = true) : -128 ≤ n ∧ n ≤ 127 := by simpa [small] using h
theorem small_false {n : Int} (h : small n = false) : n < -128 ∨ 127 < n := by
 simp [small] at h
 omega
theorem bseg_one (w : World) (x : Int) : BSeg (w.alloc (.cells #[.int .u8 x] 5)) (some ⟨w.heap.size, 0, none⟩) w.heap.size 0 1 (fun _ => x) := ⟨fun _ => rfl, fun i hi => by
  have := Blk.alloc w [.int .u8 x] 5
  have e : i = 0 := by omega
  subst e
  exact (this 0 _ rfl).1⟩
theorem owns_one8 (w : World) (x : Int) : (w.alloc (.cells #[.int .u8 x] 5)).ownsRow w.heap.size 5 1 (.slice (some ⟨w.heap.size, 0, none⟩) 1 1) 1 (byts (fun _ => x) 1) :=
 ⟨rfl, .inr ⟨w.heap.size, 1, #[.int .u8 x], rfl, Nat.le_refl _, heap_alloc_new w _, Nat.le_refl _, by decide, by simp, by simp [byts]⟩⟩
set_option maxHeartbeats 1600000 in
set_option maxRecDepth 100000 in
theorem implIntBytes_any (n : Int) (L : Nat) (hL : IsLen n L) (w : World) (h0 : -9223372036854775808 ≤ n) (h1 : n ≤ 9223372036854775807) :
  Calls Tryz.prog 116 #[.int .i64 n] w fun e w' => GivesBi w (L + 1) (fun i => ib n (L - i)) e w' := by
 have HL := hide hL
 have HO := hide (owns_one8 w (n % 256))
 have HE := hide (Ext.alloc w (.cells #[.int .u8 (n % 256)] 5))
 clear hL
 go_enter Tryz.func116, Tryz.ntmps116
 go_wp2
 go_loopw [0, 3] (fun x v wr => ∃ j : Nat, j ≤ L ∧ x = .int .i64 (hi8 n j) ∧ wr.ownsRow w.heap.size 5 1 v (j + 1) (byts (ib n) (j + 1)) ∧ Ext w wr) (fun _ v _ => 8 - (match v with | .slice _ n _ => n | _ => 0))
 case atStart => exact ⟨0, by omega, rfl, HO.out, HE.out⟩
 case round =>
  clear HO HE
  obtain ⟨j, hj, rfl, hO, hE⟩ := hrel
  obtain ⟨hb0, hb1⟩ := hi8_bound n h0 h1 j
  by_cases hs : small (hi8 n j) = true
  ·have e : j = L := by
    have := HL.out.no
    by_cases hh : j < L
    ·have := this j hh; rw [hs] at this; cases this
    ·omega
   subst e
   have HJ := hide HL.out.le
   obtain ⟨s0, s1⟩ := small_true hs
   have HO := hide hO
   have HE := hide hE
   have Hs := hide hs
   clear hO hE hs HL
   obtain ⟨ya, yg, yc, rfl, hyg, -, -, hyB⟩ := owns_seg HO.out
   have HyB := hide hyB
   have Hyg := hide hyg
   clear hyB hyg HO
   generalize hi8 n j = x at *
   have hq : x / 128 = 0 ∨ x / 128 = -1 := by omega
   rcases hq with hq | hq <;> (
    go_wp2_with fail
    refine (rev_any ya yg 0 (j + 1) yc (ib n) wr HyB.out (by have := HJ.out; omega)).mono ?_
    rintro e w1 ⟨rfl, hr, hT⟩
    have HR := hide hr
    have HB := hide (below_touch HE.out hT Hyg.out)
    clear hr hT
    go_wp2
    go_ret
    exact ⟨_, _, _, rfl, Hyg.out, HR.out.congr (fun i hi => by rw [show j + 1 - 1 - i = j - i by omega]), HB.out⟩)
  ·have hs' : small (hi8 n j) = false := by simpa using hs
   have hh : j < L := by
    have h2 := HL.out.yes
    by_cases e : j = L
    ·subst e; exact absurd h2 hs
    ·omega
   have s0 := small_false hs'
   have HO := hide (hO.alloc (.cells #[.int .u8 (ib n (j + 1))] 5))
   have HE := hide hE
   have Hsz := hide (Below.size hE)
   have HJ := hide (Nat.lt_of_lt_of_le hh HL.out.le)
   have H8 : Hid (hi8 n (j + 1) = hi8 n j / 256) := rfl
   have q0 : (hi8 n j / 128 != 0) = true := by simp; omega
   have q1 : (hi8 n j / 128 != -1) = true := by simp; omega
   obtain ⟨y, hy⟩ : ∃ y, ib n (j + 1) = y := ⟨_, rfl⟩
   have hy1 : hi8 n j / 256 % 256 = y := by rw [← hy]; rfl
   have HB := hide (bseg_one wr y)
   rw [hy] at HO
   have Hy := hide hy
   have HO1 := hide hO
   clear hO hE hs hs' hy
   go_wp2_with (at_builtin; refine wpList_append_bs rfl _ _ rfl w.heap.size _ (j + 1) _ rfl HO.out _ wr.heap.size 0 1 1 (fun _ => y) rfl HB.out (by have := HJ.out; omega) (by have := Hsz.out; simp; omega) ?_)
   intro v' w1 h2 h3
   rw [byts_append] at h2
   have H2 : Hid (w1.ownsRow w.heap.size 5 1 v' (j + 1 + 1) (byts (ib n) (j + 1 + 1))) := hide (owns_congr h2 (fun i hi => by
    unfold catF
    split
    ·rfl
    ·rw [← Hy.out, show i = j + 1 by omega]))
   have H3 : Hid (Ext w w1) := hide (Below.trans (Ext.trans HE.out (Ext.alloc _ _)) h3)
   clear h2 h3 HO HB
   go_wp2
   go_roundw
   case rel => exact ⟨j + 1, by omega, by rw [H8.out], H2.out, H3.out⟩
   case measure =>
    obtain ⟨_, _, _, rfl, -⟩ := owns_seg H2.out
    obtain ⟨_, _, _, rfl, -⟩ := owns_seg HO1.out
    have := HJ.out
    simp
    omega
set_option maxHeartbeats 1600000 in
set_option maxRecDepth 100000 in
theorem specIntBytes_any (n : Int) (L : Nat) (hL : IsLen n L) (w : World) (h0 : -9223372036854775808 ≤ n) (h1 : n ≤ 9223372036854775807) :
  Calls Tryz.prog 65 #[.int .i64 n] w fun e w' => GivesBi w (L + 1) (fun i => ib n (L - i)) e w' := by
 have HL := hide hL
 have HO := hide (owns_one8 w (n % 256))
 have HE := hide (Ext.alloc w (.cells #[.int .u8 (n % 256)] 5))
 clear hL
 go_enter Tryz.func65, Tryz.ntmps65
 go_wp2
 go_loopw [0, 3] (fun x v wr => ∃ j : Nat, j ≤ L ∧ x = .int .i64 (hi8 n j) ∧ wr.ownsRow w.heap.size 5 1 v (j + 1) (byts (fun i => ib n (j - i)) (j + 1)) ∧ Ext w wr) (fun _ v _ => 8 - (match v with | .slice _ n _ => n | _ => 0))
 case atStart => exact ⟨0, by omega, rfl, owns_congr HO.out (fun i hi => by rw [show 0 - i = 0 by omega]; rfl), HE.out⟩
 case round =>
  clear HO HE
  obtain ⟨j, hj, rfl, hO, hE⟩ := hrel
  obtain ⟨hb0, hb1⟩ := hi8_bound n h0 h1 j
  by_cases hs : small (hi8 n j) = true
  ·have e : j = L := by
    have := HL.out.no
    by_cases hh : j < L
    ·have := this j hh; rw [hs] at this; cases this
    ·omega
   subst e
   have HJ := hide HL.out.le
   obtain ⟨s0, s1⟩ := small_true hs
   have HO := hide hO
   have HE := hide hE
   have Hs := hide hs
   clear hO hE hs HL
   obtain ⟨ya, yg, yc, rfl, hyg, -, -, hyB⟩ := owns_seg HO.out
   have HyB := hide hyB
   have Hyg := hide hyg
   clear hyB hyg HO
   generalize hi8 n j = x at *
   go_wp2
   go_ret
   exact ⟨_, _, _, rfl, Hyg.out, HyB.out, HE.out⟩
  ·have hs' : small (hi8 n j) = false := by simpa using hs
   have hh : j < L := by
    have h2 := HL.out.yes
    by_cases e : j = L
    ·subst e; exact absurd h2 hs
    ·omega
   have s0 := small_false hs'
   obtain ⟨ya, yg, yc, rfl, hyg, -, -, hyB⟩ := owns_seg hO
   have HE := hide hE
   have Hsz := hide (Below.size hE)
   have HJ := hide (Nat.lt_of_lt_of_le hh HL.out.le)
   have H8 : Hid (hi8 n (j + 1) = hi8 n j / 256) := rfl
   have q0 : 127 < hi8 n j ∨ ¬ 127 < hi8 n j ∧ hi8 n j < -128 := by omega
   obtain ⟨y, hy⟩ : ∃ y, ib n (j + 1) = y := ⟨_, rfl⟩
   have hy1 : hi8 n j / 256 % 256 = y := by rw [← hy]; rfl
   have HB := hide (hyB.toBSeg.of_all (Ext.alloc wr (.cells #[.int .u8 y] 5)))
   have HO := hide (owns_mono (owns_one8 wr y) (Below.size hE))
   have Hy := hide hy
   clear hO hE hs hs' hy hyg hyB s0
   rcases q0 with q0 | ⟨q0, q1⟩ <;> (
    go_wp2_with (at_builtin; refine wpList_append_bs rfl _ _ rfl w.heap.size _ 1 (byts (fun _ => y) 1) rfl HO.out _ yg 0 (j + 1) yc (fun i => ib n (j - i)) rfl HB.out (by have := HJ.out; omega) (by have := Hsz.out; simp; omega) ?_)
    intro v' w1 h2 h3
    rw [byts_append] at h2
    have H2 : Hid (w1.ownsRow w.heap.size 5 1 v' (j + 1 + 1) (byts (fun i => ib n (j + 1 - i)) (j + 1 + 1))) := hide (by
     rw [show j + 1 + 1 = 1 + (j + 1) by omega]
     refine owns_congr h2 (fun i hi => ?_)
     unfold catF
     split
     ·rw [← Hy.out, show j + 1 - i = j + 1 by omega]
     ·show ib n (j - (i - 1)) = _
      rw [show j - (i - 1) = j + 1 - i by omega])
    have H3 : Hid (Ext w w1) := hide (Below.trans (Ext.trans HE.out (Ext.alloc _ _)) h3)
    clear h2 h3 HO HB
    go_wp2
    go_roundw
    case rel => exact ⟨j + 1, by omega, by rw [H8.out], H2.out, H3.out⟩
    case measure =>
     obtain ⟨_, _, _, rfl, -⟩ := owns_seg H2.out
     have := HJ.out
     simp
     omega)
def dv (n B : Int) : Nat → Int
 | 0 => n
 | k + 1 => dv n B k / B
def dg (n B : Int) (k : Nat) : Int := dv n B k % B
structure IsLenB (n B : Int) (L : Nat) : Prop where
 yes : dv n B (L + 1) ≤ 0
 no : ∀ j, j < L → 0 < dv n B (j + 1)
def blen (B : Int) : Nat → Int → Nat
 | 0, _ => 0
 | k + 1, n => if n / B ≤ 0 then 0 else 1 + blen B k (n / B)
theorem dv_shift (n B : Int) (k : Nat) : dv n B (k + 1) = dv (n / B) B k := by
 induction k with
 | zero => rfl
 | succ k ih => rw [dv, ih]; rfl
theorem blen_is {B : Int} (hB : B = 128 ∨ B = 256) : ∀ (k : Nat) (n : Int), 0 ≤ n → n.toNat ≤ k → IsLenB n B (blen B k n)
 | 0, n, h0, hk => ⟨by show n / B ≤ 0; rcases hB with rfl | rfl <;> omega, fun j hj => absurd hj (Nat.not_lt_zero _)⟩
 | k + 1, n, h0, hk => by
  unfold blen
  by_cases h : n / B ≤ 0
  ·rw [if_pos h]
   exact ⟨h, fun j hj => absurd hj (Nat.not_lt_zero _)⟩
  ·rw [if_neg h]
   have ih := blen_is hB k (n / B) (by omega) (by rcases hB with rfl | rfl <;> omega)
   refine ⟨?_, fun j hj => ?_⟩
   ·rw [Nat.add_comm 1, dv_shift]; exact ih.yes
   ·cases j with
    | zero => show 0 < n / B; omega
    | succ j => rw [dv_shift]; exact ih.no j (by omega)
theorem dv_nonneg {n B : Int} (hB : B = 128 ∨ B = 256) (h0 : 0 ≤ n) (k : Nat) : 0 ≤ dv n B k ∧ dv n B k ≤ n := by
 induction k with
 | zero => exact ⟨h0, Int.le_refl _⟩
 | succ k ih => unfold dv; rcases hB with rfl | rfl <;> omega
theorem IsLenB.le {n B : Int} {L : Nat} (h : IsLenB n B L) (hB : B = 128 ∨ B = 256) (h0 : 0 ≤ n) (h1 : n ≤ 9223372036854775807) : L ≤ 8 := by
 by_cases hL : L ≤ 8
 ·exact hL
 ·exfalso
  have h9 := h.no 8 (by omega)
  rcases hB with rfl | rfl
  ·have e : dv n 128 9 = n / 128 / 128 / 128 / 128 / 128 / 128 / 128 / 128 / 128 := rfl
   rw [e] at h9
   omega
  ·have e : dv n 256 9 = n / 256 / 256 / 256 / 256 / 256 / 256 / 256 / 256 / 256 := rfl
   rw [e] at h9
   omega
theorem IsLenB.unique {n B : Int} {L M : Nat} (h : IsLenB n B L) (k : IsLenB n B M) : L = M := by
 rcases Nat.lt_trichotomy L M with hl | hl | hl
 ·have := k.no L hl; have := h.yes; omega
 ·exact hl
 ·have := h.no M hl; have := k.yes; omega
def lenB (B n : Int) : Nat := blen B n.toNat n
theorem lenB_is {B : Int} (hB : B = 128 ∨ B = 256) (n : Int) (h0 : 0 ≤ n) : IsLenB n B (lenB B n) := blen_is hB _ n h0 (Nat.le_refl _)
theorem byts_set (F : Nat → Int) (n i : Nat) (x : Int) : (byts F n).set i (.int .u8 x) = byts (fun k => if k = i then x else F k) n := by
 apply List.ext_getElem?
 intro k
 rw [List.getElem?_set]
 simp only [byts, List.length_map, List.length_range, List.getElem?_map]
 by_cases hk : k < n
 ·rw [List.getElem?_range hk]
  by_cases e : i = k
  ·subst e; simp [hk]
  ·rw [if_neg e]; simp [Ne.symm e]
 ·rw [List.getElem?_eq_none (by simpa using hk)]
  by_cases e : i = k
  ·subst e; simp [hk]
  ·rw [if_neg e]; rfl
theorem owns_set {w : World} {base g n cap : Nat} {F : Nat → Int} (h : w.ownsRow base 5 1 (.slice (some ⟨g, 0, none⟩) n cap) n (byts F n)) (i : Nat) (x : Int) :
  (w.setCell ⟨g, i, none⟩ (.int .u8 x)).ownsRow base 5 1 (.slice (some ⟨g, 0, none⟩) n cap) n (byts (fun k => if k = i then x else F k) n) := by
 rw [← byts_set]
 exact (World.ownsRow.stored h i _).1
theorem owns_cell {w : World} {base g n cap : Nat} {F : Nat → Int} (h : w.ownsRow base 5 1 (.slice (some ⟨g, 0, none⟩) n cap) n (byts F n)) (i : Nat) (hi : i < n) : w.cell? ⟨g, i, none⟩ = some (.int .u8 (F i)) := by
 rw [World.ownsRow.cellAt h i (by omega)]
 simp [byts, hi]
theorem owns_free {w : World} {base g n cap : Nat} {xs : List Value} (h : w.ownsRow base 5 1 (.slice (some ⟨g, 0, none⟩) n cap) n xs) (i : Nat) : w.frozen? ⟨g, i, none⟩ = false := World.ownsRow.frozenAt h i
set_option maxHeartbeats 1600000 in
set_option maxRecDepth 100000 in
theorem rev_own (base g n cap : Nat) (f : Nat → Int) (w : World) (hs : w.ownsRow base 5 1 (.slice (some ⟨g, 0, none⟩) n cap) n (byts f n)) (hn : n ≤ 1048576) :
  Calls Tryz.prog 138 #[.slice (some ⟨g, 0, none⟩) n cap] w fun e w' => e = .returned (.tuple #[]) ∧ w'.ownsRow base 5 1 (.slice (some ⟨g, 0, none⟩) n cap) n (byts (fun i => f (n - 1 - i)) n) ∧ Touch g w w' := by
 go_enter Tryz.func138, Tryz.ntmps138
 have Hs := hide hs
 clear hs
 go_wp2
 go_loopw [2, 3] (fun s2 s3 wr => ∃ i : Nat, 2 * i ≤ n + 1 ∧ s2 = .int .i64 i ∧ s3 = .int .i64 ((n : Int) - 1 - i) ∧ wr.ownsRow base 5 1 (.slice (some ⟨g, 0, none⟩) n cap) n (byts (revF f n i) n) ∧ Touch g w wr) (fun s2 _ _ => n - (intOf s2).toNat)
 case atStart => exact ⟨0, by omega, rfl, by go_num, owns_congr Hs.out (fun k hk => by unfold revF; rw [if_neg (by omega)]), Touch.refl _ _⟩
 case round =>
  obtain ⟨i, hi, rfl, rfl, hO, hT⟩ := hrel
  by_cases hlt : (i : Int) < (n : Int) - 1 - i
  ·obtain ⟨j, hj⟩ : ∃ j, n - 1 - i = j := ⟨_, rfl⟩
   have hjz : (n : Int) - 1 - i = (j : Int) := by omega
   have hij : (i : Int) < j := by omega
   have ci := owns_cell hO i (by omega)
   have fi := owns_free hO i
   have cj := owns_cell hO j (by omega)
   have fj := owns_free hO j
   have hi' : (i : Int) < n := by omega
   have hj' : (j : Int) < n := by omega
   have HO := hide hO
   have HT := hide hT
   have Hj := hide hj
   have HC := hide (owns_set (owns_set hO i (revF f n i j)) j (revF f n i i))
   have hT2 := hide ((hT.set i (.int .u8 (revF f n i j))).set j (.int .u8 (revF f n i i)))
   rw [hjz]
   clear hO hT hj hjz hlt
   go_wp2_with fail
   go_region
   go_wp2
   go_roundw
   case rel =>
    have h1 := Hj.out
    refine ⟨i + 1, by omega, by go_num, by go_num, (owns_congr HC.out (fun k hk => ?_) : World.ownsRow _ _ _ _ _ _ _), hT2.out.drew 1⟩
    unfold revF
    by_cases e1 : k = j
    ·subst e1
     rw [if_pos rfl, if_neg (by omega), if_pos (by omega)]
     congr 1; omega
    ·rw [if_neg e1]
     by_cases e2 : k = i
     ·subst e2
      rw [if_pos rfl, if_neg (by omega), if_pos (by omega)]
      congr 1; omega
     ·rw [if_neg e2]
      by_cases e3 : k < i ∨ n - i ≤ k
      ·rw [if_pos e3, if_pos (by omega)]
      ·rw [if_neg e3, if_neg (by omega)]
   case measure => simp [intOf]; omega
  ·have HO := hide hO
   clear hO
   go_wp2
   go_end0
   refine ⟨rfl, owns_congr HO.out (fun k hk => ?_), hT⟩
   unfold revF
   split
   ·rfl
   ·congr 1; omega
theorem Touch.ext {g : Nat} {w0 w w' : World} (ht : Touch g w w') (he : Ext w0 w) (hg : w0.heap.size ≤ g) : Ext w0 w' := below_touch he ht hg
set_option maxHeartbeats 1600000 in
set_option maxRecDepth 100000 in
theorem inBase_any (n B : Int) (L : Nat) (hB : B = 128 ∨ B = 256) (hL : IsLenB n B L) (w : World) (h0 : 0 ≤ n) (h1 : n ≤ 9223372036854775807) :
  Calls Tryz.prog 126 #[.int .i64 n, .int .i64 B] w fun e w' => GivesR w (L + 1) (fun i => dg n B (L - i)) e w' := by
 have HL := hide hL
 have HB := hide hB
 have HO := hide (owns_one8 w (n % B))
 have HE := hide (Ext.alloc w (.cells #[.int .u8 (n % B)] 5))
 have m0 : n.tmod B = n % B := Int.tmod_eq_emod_of_nonneg h0
 have q0 : n.tdiv B = n / B := Int.tdiv_eq_ediv_of_nonneg h0
 have b0 : 0 < B := by omega
 have b1 : (B == 0) = false := by simp; omega
 have b2 : ¬ B = 0 := by omega
 have b3 : B ≤ 256 := by omega
 have u0 : n % B % 256 = n % B := by rcases hB with rfl | rfl <;> omega
 have l0 : 0 ≤ n % B := Int.emod_nonneg _ b2
 have l1 : n % B < B := Int.emod_lt_of_pos _ b0
 have d0 : 0 ≤ n / B := by rcases hB with rfl | rfl <;> omega
 have d1 : n / B ≤ 9223372036854775807 := by rcases hB with rfl | rfl <;> omega
 clear hL hB
 go_enter Tryz.func126, Tryz.ntmps126
 go_wp2
 clear m0 q0 u0 l0 l1 d0 d1
 go_loopw [0, 5] (fun x v wr => ∃ j : Nat, j ≤ L ∧ x = .int .i64 (dv n B (j + 1)) ∧ wr.ownsRow w.heap.size 5 1 v (j + 1) (byts (dg n B) (j + 1)) ∧ Ext w wr) (fun _ v _ => 9 - (match v with | .slice _ n _ => n | _ => 0))
 case atStart => exact ⟨0, by omega, rfl, HO.out, HE.out⟩
 case round =>
  clear HO HE
  obtain ⟨j, hj, rfl, hO, hE⟩ := hrel
  obtain ⟨hb0, hb1⟩ := dv_nonneg HB.out h0 (j + 1)
  by_cases hs : dv n B (j + 1) ≤ 0
  ·have e : j = L := by
    by_cases hh : j < L
    ·have := HL.out.no j hh; omega
    ·omega
   subst e
   have HJ := hide (HL.out.le HB.out h0 h1)
   have x0 : ¬ (0 : Int) < dv n B (j + 1) := by omega
   have HE := hide hE
   obtain ⟨ya, yg, yc, rfl, hyg, hyn, hyc, hyB⟩ := owns_seg hO
   have HO := hide hO
   obtain rfl := hyB.at' (by omega)
   have Hyg := hide hyg
   clear hyB hyg hO hE hs HL
   generalize dv n B (j + 1) = x at *
   go_wp2_with fail
   refine (rev_own w.heap.size yg (j + 1) yc (dg n B) wr HO.out (by have := HJ.out; omega)).mono ?_
   rintro e w1 ⟨rfl, hr, hT⟩
   have HR := hide hr
   have HB := hide (hT.ext HE.out Hyg.out)
   clear hr hT
   go_wp2
   go_ret
   exact ⟨_, rfl, owns_congr HR.out (fun i hi => by show dg n B (j + 1 - 1 - i) = _; rw [show j + 1 - 1 - i = j - i by omega]), HB.out⟩
  ·have hh : j < L := by
    have h2 := HL.out.yes
    by_cases e : j = L
    ·subst e; exact absurd h2 hs
    ·omega
   have x0 : (0 : Int) < dv n B (j + 1) := by omega
   have HE := hide hE
   have Hsz := hide (Below.size hE)
   have HJ := hide (Nat.lt_of_lt_of_le hh (HL.out.le HB.out h0 h1))
   have H8 : Hid (dv n B (j + 1 + 1) = dv n B (j + 1) / B) := rfl
   have Hy : Hid (dg n B (j + 1) = dv n B (j + 1) % B) := rfl
   have m0 : (dv n B (j + 1)).tmod B = dv n B (j + 1) % B := Int.tmod_eq_emod_of_nonneg hb0
   have q0 : (dv n B (j + 1)).tdiv B = dv n B (j + 1) / B := Int.tdiv_eq_ediv_of_nonneg hb0
   have u0 : dv n B (j + 1) % B % 256 = dv n B (j + 1) % B := by rcases HB.out with rfl | rfl <;> omega
   have l0 : 0 ≤ dv n B (j + 1) % B := Int.emod_nonneg _ b2
   have l1 : dv n B (j + 1) % B < B := Int.emod_lt_of_pos _ b0
   have d0 : 0 ≤ dv n B (j + 1) / B := by rcases HB.out with rfl | rfl <;> omega
   have d1 : dv n B (j + 1) / B ≤ 9223372036854775807 := by rcases HB.out with rfl | rfl <;> omega
   have HO1 := hide hO
   have HO := hide (hO.alloc (.cells #[.int .u8 (dv n B (j + 1) % B)] 5))
   have HX := hide (bseg_one wr (dv n B (j + 1) % B))
   clear hO hE hs
   go_wp2_with (at_builtin; refine wpList_append_bs rfl _ _ rfl w.heap.size _ (j + 1) _ rfl HO.out _ wr.heap.size 0 1 1 (fun _ => dv n B (j + 1) % B) rfl HX.out (by have := HJ.out; omega) (by have := Hsz.out; simp; omega) ?_)
   intro v' w1 h2 h3
   rw [byts_append] at h2
   have H2 : Hid (w1.ownsRow w.heap.size 5 1 v' (j + 1 + 1) (byts (dg n B) (j + 1 + 1))) := hide (owns_congr h2 (fun i hi => by
    unfold catF
    split
    ·rfl
    ·rw [show i = j + 1 by omega]; rfl))
   have H3 : Hid (Ext w w1) := hide (Below.trans (Ext.trans HE.out (Ext.alloc _ _)) h3)
   clear h2 h3 HO HX
   go_wp2
   go_roundw
   case rel => exact ⟨j + 1, by omega, by rw [H8.out], H2.out, H3.out⟩
   case measure =>
    obtain ⟨_, _, _, rfl, -⟩ := owns_seg H2.out
    obtain ⟨_, _, _, rfl, -⟩ := owns_seg HO1.out
    have := HJ.out
    simp
    omega
def lgN (n : Int) : Nat := if n < 128 then 1 else lenB 256 n + 2
def lgF (n : Int) (i : Nat) : Int := if n < 128 then n else if i = 0 then 129 + (lenB 256 n : Int) else dg n 256 (lenB 256 n - (i - 1))
theorem len_low {n : Int} (h0 : 0 ≤ n) (h1 : n < 256) : lenB 256 n = 0 := by
 refine (lenB_is (B := 256) (.inr rfl) n h0).unique ⟨?_, fun j hj => by omega⟩
 show dv n 256 1 ≤ 0
 simp only [dv]
 omega
theorem len_mid {n : Int} (h0 : 256 ≤ n) (h1 : n < 65536) : lenB 256 n = 1 := by
 refine (lenB_is (B := 256) (.inr rfl) n (by omega)).unique ⟨?_, fun j hj => ?_⟩
 ·show dv n 256 2 ≤ 0
  simp only [dv]
  omega
 ·obtain rfl : j = 0 := by omega
  show 0 < dv n 256 1
  simp only [dv]
  omega
theorem len_le {n : Int} (h0 : 0 ≤ n) (h1 : n ≤ 9223372036854775807) : lenB 256 n ≤ 8 := (lenB_is (B := 256) (.inr rfl) n h0).le (.inr rfl) h0 h1
theorem owns_low {w : World} {B B' n : Nat} {v : Value} {xs : List Value} (h : B' ≤ B) (ho : w.ownsRow B 5 1 v n xs) : w.ownsRow B' 5 1 v n xs := by
 refine ⟨ho.1, ?_⟩
 rcases ho.2 with h0 | ⟨g, cap, cur, rfl, hb, rest⟩
 ·exact .inl h0
 ·exact .inr ⟨g, cap, cur, rfl, Nat.le_trans h hb, rest⟩
set_option maxHeartbeats 1600000 in
set_option maxRecDepth 100000 in
theorem lengthBytes_any (n : Int) (w : World) (h0 : 0 ≤ n) (h1 : n ≤ 9223372036854775807) : Calls Tryz.prog 100 #[.int .i64 n] w fun e w' => GivesR w (lgN n) (lgF n) e w' := by
 have HI := hide (inBase_any n 256 (lenB 256 n) (.inr rfl) (lenB_is (.inr rfl) n h0) w h0 h1)
 by_cases hl : n < 128
 ·have e0 := len_low h0 (by omega)
  have hN : lgN n = 1 := by unfold lgN; rw [if_pos hl]
  have hF : ∀ i, i < 1 → (fun i => dg n 256 (0 - i)) i = lgF n i := fun i hi => by
   obtain rfl : i = 0 := by omega
   show dg n 256 0 = lgF n 0
   unfold lgF dg
   rw [if_pos hl]
   simp only [dv]
   omega
  have HF := hide hF
  rw [hN]
  rw [e0] at HI
  clear hN e0 hF
  go_enter Tryz.func100, Tryz.ntmps100
  go_wp2_with fail
  refine HI.out.mono ?_
  rintro e w1 ⟨v, rfl, hO, hE⟩
  have HR : Hid (GivesR w 1 (lgF n) (.returned v) w1) := ⟨v, rfl, owns_congr hO HF.out, hE⟩
  obtain ⟨ya, yg, yc, rfl, -, -, -, -⟩ := owns_seg hO
  clear hO hE HI
  go_wp2
  go_ret
  exact HR.out
 ·have l8 := len_le h0 h1
  have hN : lgN n = lenB 256 n + 2 := by unfold lgN; rw [if_neg hl]
  have HG : Hid (∀ i, lgF n i = if i = 0 then 129 + (lenB 256 n : Int) else dg n 256 (lenB 256 n - (i - 1))) := fun i => by unfold lgF; rw [if_neg hl]
  rw [hN]
  generalize lenB 256 n = L at *
  generalize lgF n = G at *
  clear hN
  go_enter Tryz.func100, Tryz.ntmps100
  go_wp2_with fail
  refine HI.out.mono ?_
  rintro e w1 ⟨v, rfl, hO, hE⟩
  obtain ⟨ya, yg, yc, rfl, hyg, hyn, hyc, hyB⟩ := owns_seg hO
  have HX := hide (hyB.toBSeg.of_all (Ext.alloc w1 (.cells #[.int .u8 (129 + (L : Int))] 5)))
  have HO1 := hide (owns_one8 w1 (129 + (L : Int)))
  have HE := hide (hE.trans (Ext.alloc w1 (.cells #[.int .u8 (129 + (L : Int))] 5)))
  have hw1 : IntKind.u8.wrap ((L : Int) + 1) = (L : Int) + 1 := by rw [IntKind.wrap_u8]; omega
  have hw2 : IntKind.u8.wrap (128 + ((L : Int) + 1)) = 129 + (L : Int) := by rw [IntKind.wrap_u8]; omega
  have hsz : w.heap.size ≤ w1.heap.size := Below.size hE
  clear hO hE hyB HI hyg
  go_wp2_with (at_builtin; refine wpList_append_bs rfl _ _ rfl w1.heap.size _ 1 _ rfl HO1.out _ yg 0 (L + 1) yc (fun i => dg n 256 (L - i)) rfl HX.out (by omega) (by simp) ?_)
  intro v3 w3 hO3 hb3
  rw [byts_append] at hO3
  have HR : Hid (GivesR w (L + 2) G (.returned v3) w3) := ⟨v3, rfl, owns_low hsz (by
   rw [show 1 + (L + 1) = L + 2 by omega] at hO3
   refine owns_congr hO3 (fun i hi => ?_)
   rw [HG.out i]
   by_cases e : i = 0
   ·subst e; rw [if_pos rfl, catF, if_pos (by omega)]
   ·rw [if_neg e, catF, if_neg (by omega)]), Below.trans HE.out (hb3.mono hsz)⟩
  obtain ⟨ya3, yg3, yc3, rfl, -, -, -, -⟩ := owns_seg hO3
  clear hO3 hb3 HX HO1 HE
  go_wp2
  go_ret
  exact HR.out
theorem lgN_le {n : Int} (h0 : 0 ≤ n) (h1 : n ≤ 9223372036854775807) : 1 ≤ lgN n ∧ lgN n ≤ 10 := by
 have := len_le h0 h1
 unfold lgN
 split <;> omega
set_option maxHeartbeats 800000 in
theorem wholeLength_any (n : Int) (w : World) (h0 : 0 ≤ n) (h1 : n ≤ 1099511627776) : Calls Tryz.prog 98 #[.int .i64 n] w fun e w' => e = .returned (.int .i64 (1 + (lgN n : Int) + n)) ∧ Ext w w' := by
 have HL := hide (lengthBytes_any n w h0 (by omega))
 obtain ⟨l1, l2⟩ := lgN_le h0 (show n ≤ 9223372036854775807 by omega)
 generalize lgN n = N at *
 have e1 : wrap64 (1 + (N : Int)) = 1 + (N : Int) := by unfold wrap64; omega
 have e2 : wrap64 (1 + (N : Int) + n) = 1 + (N : Int) + n := by unfold wrap64; omega
 clear h0 h1 l1 l2
 go_enter Tryz.func98, Tryz.ntmps98
 go_wp2_with fail
 refine HL.out.mono ?_
 rintro e w1 ⟨v, rfl, hO, hE⟩
 obtain ⟨ya, yg, yc, rfl, -, -, -, -⟩ := owns_seg hO
 have HE := hide hE
 clear hO hE HL
 go_wp2
 go_ret
 exact ⟨(show Ending.returned (.int .i64 (wrap64 (1 + (N : Int) + n))) = _ by rw [e2]), HE.out⟩
theorem lg_low {n : Int} (h : n < 128) : lgN n = 1 ∧ ∀ i, i < 1 → lgF n i = n := ⟨by unfold lgN; rw [if_pos h], fun i _ => by unfold lgF; rw [if_pos h]⟩
theorem lg_mid {n : Int} (h0 : 128 ≤ n) (h1 : n < 256) : lgN n = 2 ∧ lgF n 0 = 129 ∧ lgF n 1 = n := by
 have e := len_low (n := n) (by omega) h1
 have hn : ¬ n < 128 := by omega
 unfold lgN lgF
 simp only [if_neg hn, e]
 refine ⟨trivial, rfl, ?_⟩
 show dg n 256 0 = n
 unfold dg
 simp only [dv]
 omega
theorem lg_high {n : Int} (h0 : 256 ≤ n) (h1 : n < 65536) : lgN n = 3 ∧ lgF n 0 = 130 ∧ lgF n 1 = n / 256 ∧ lgF n 2 = n % 256 := by
 have e := len_mid h0 h1
 have hn : ¬ n < 128 := by omega
 unfold lgN lgF
 simp only [if_neg hn, e]
 refine ⟨trivial, rfl, ?_, ?_⟩
 ·show dg n 256 1 = n / 256
  unfold dg
  simp only [dv]
  omega
 ·show dg n 256 0 = n % 256
  unfold dg
  simp only [dv]
set_option maxHeartbeats 800000 in
theorem l7Length_any (n : Int) (w : World) (h0 : 0 ≤ n) (h1 : n < 65536) : Calls Tryz.prog 107 #[.int .i64 n] w fun e w' => GivesR w (lgN n) (lgF n) e w' := by
 by_cases c1 : n < 128
 ·obtain ⟨hN, hF⟩ := lg_low c1
  have HR : Hid (GivesR w (lgN n) (lgF n) (.returned (.slice (some ⟨w.heap.size, 0, none⟩) 1 1)) (w.alloc (.cells #[.int .u8 n] 5))) := by
   rw [hN]
   exact ⟨_, rfl, owns_congr (owns_one8 w n) (fun i hi => (hF i hi).symm), Ext.alloc _ _⟩
  have hw : IntKind.u8.wrap n = n := by rw [IntKind.wrap_u8]; omega
  clear hN hF h0 h1
  go_enter Tryz.func107, Tryz.ntmps107
  go_wp2
  go_ret
  exact HR.out
 ·by_cases c2 : n < 256
  ·obtain ⟨hN, f0, f1⟩ := lg_mid (by omega) c2
   have HR : Hid (GivesR w (lgN n) (lgF n) (.returned (.slice (some ⟨w.heap.size, 0, none⟩) 2 2)) (w.alloc (.cells #[.int .u8 129, .int .u8 n] 5))) := by
    rw [hN]
    refine ⟨_, rfl, ?_, Ext.alloc _ _⟩
    have := World.ownsRow_lit (e := 5) (size := 1) (base := w.heap.size) w #[.int .u8 129, .int .u8 n] 2 (Nat.le_refl _) (by decide) rfl
    rw [show byts (lgF n) 2 = [.int .u8 (lgF n 0), .int .u8 (lgF n 1)] from rfl, f0, f1]
    exact this
   have hw : IntKind.u8.wrap n = n := by rw [IntKind.wrap_u8]; omega
   clear hN f0 f1 h0 h1
   go_enter Tryz.func107, Tryz.ntmps107
   go_wp2
   go_ret
   exact HR.out
  ·obtain ⟨hN, f0, f1, f2⟩ := lg_high (by omega) h1
   have HR : Hid (GivesR w (lgN n) (lgF n) (.returned (.slice (some ⟨w.heap.size, 0, none⟩) 3 3)) (w.alloc (.cells #[.int .u8 130, .int .u8 (n / 256), .int .u8 (n % 256)] 5))) := by
    rw [hN]
    refine ⟨_, rfl, ?_, Ext.alloc _ _⟩
    have := World.ownsRow_lit (e := 5) (size := 1) (base := w.heap.size) w #[.int .u8 130, .int .u8 (n / 256), .int .u8 (n % 256)] 3 (Nat.le_refl _) (by decide) rfl
    rw [show byts (lgF n) 3 = [.int .u8 (lgF n 0), .int .u8 (lgF n 1), .int .u8 (lgF n 2)] from rfl, f0, f1, f2]
    exact this
   have hw : IntKind.u8.wrap n = n % 256 := by rw [IntKind.wrap_u8]
   have hw2 : IntKind.u8.wrap (n / 256) = n / 256 := by rw [IntKind.wrap_u8]; omega
   clear hN f0 f1 f2 h0 h1
   go_enter Tryz.func107, Tryz.ntmps107
   go_wp2
   go_ret
   exact HR.out
end
end Go.Proofs.YtkogbinfhoiggaaGreatDoor
