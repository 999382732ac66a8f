/- Walks: the program's iterator over heads (written by mkrdw.py). -/
import Derived.Test.YtkogbinfhoiggaaGreatDoorCx10
import Derived.Test.YtkogbinfhoiggaaGreatDoorCx12
namespace Go.Proofs.YtkogbinfhoiggaaGreatDoor
set_option linter.unusedVariables false
set_option linter.unusedSimpArgs false
open Go.RowKit Go.Shelf
attribute [local go_sem] Oper.semAt_some
def encH (x : Hed ⊕ (Int × Int)) : Array Value :=
 match x with
 | .inl h => #[.agg (hdV h).toArray, .nilIface]
 | .inr cp => #[.agg noH.toArray, fltV cp.1 cp.2]
def esL (es : List Nat) : List Int := es.reverse.map (fun (e : Nat) => (e : Int))
theorem esL_cons (e : Nat) (r : List Nat) : esL (e :: r) = esL r ++ [(e : Int)] := by simp [esL]
theorem esL_len (es : List Nat) : (esL es).length = es.length := by simp [esL]
theorem jumpsTo_goto {J : Nat → Act → World → Prop} {Q : Exit → Act → World → Prop} {K : Act → World → Prop} {l : Nat} {a : Act} {w : World} (h : J l a w) : Exit.then K (jumpsTo J Q) (.goto l) a w := h
theorem jumpsTo_goto1 {J : Nat → Act → World → Prop} {Q : Exit → Act → World → Prop} {l : Nat} {a : Act} {w : World} (h : J l a w) : jumpsTo J Q (.goto l) a w := h
theorem jumpsTo_ret1 {J : Nat → Act → World → Prop} {Q : Exit → Act → World → Prop} {a : Act} {w : World} (h : Q .ret a w) : jumpsTo J Q .ret a w := h
structure HdI (f : Nat → Int) (bn : Nat) (W : World) (X : Nat → Prop) (J : (Nat → Prop) → List (Hed ⊕ (Int × Int)) → World → Prop) (T : List (Hed ⊕ (Int × Int))) (c p : Int) (lb at' : Nat) (es : List Nat) (n g vc : Nat) (pre : List (Hed ⊕ (Int × Int))) (H : List Hed) (O : Nat → Prop) (w : World) : Prop where
 nn : es.length = n
 nx : if lb = 0 then Run f at' es H c p else Goes f at' es H c p
 ne : es ≠ []
 le : ∀ e ∈ es, e ≤ bn
 ln : es.length ≤ 14
 at' : at' ≤ bn
 tl : pre ++ tel H c p = T
 jp : J O pre w
 sz : W.heap.size ≤ w.heap.size
 ke : ∀ k, X k → w.heap[k]? = W.heap[k]?
 ob : ∀ k, O k → W.heap.size ≤ k ∧ k < w.heap.size
 og : O g
 rw : w.ownsRow W.heap.size 3 1 (.slice (some ⟨g, 0, none⟩) n vc) n (iys (esL es))
structure HSt where
 at' : Nat
 es : List Nat
 n : Nat
 g : Nat
 vc : Nat
 pre : List (Hed ⊕ (Int × Int))
 H : List Hed
 O : Nat → Prop
 u : Nat → Value
def frH (l CB : Nat) (s : HSt) : Act := { tmps := #[.func (.yield l) #[] #[], .pointer (some ⟨CB, 0, none⟩), s.u 2, .slice (some ⟨s.g, 0, none⟩) s.n s.vc, .int .i64 (s.at' : Int), s.u 5, s.u 6, s.u 7, s.u 8, s.u 9, s.u 10, s.u 11, s.u 12, s.u 13, s.u 14, s.u 15, s.u 16, s.u 17, s.u 18, s.u 19, s.u 20, s.u 21, s.u 22, s.u 23, s.u 24, s.u 25, s.u 26, s.u 27, s.u 28, s.u 29, s.u 30, s.u 31, s.u 32, s.u 33, s.u 34, s.u 35, s.u 36, s.u 37, s.u 38, s.u 39, s.u 40, s.u 41, s.u 42, s.u 43, s.u 44, s.u 45, s.u 46, s.u 47, s.u 48, s.u 49, s.u 50, s.u 51, s.u 52, s.u 53, s.u 54, s.u 55, s.u 56, s.u 57, s.u 58, s.u 59, s.u 60, s.u 61, s.u 62], defers := [] }
theorem ex_st {l CB : Nat} {a : Act} {P : HSt → Prop} (at' : Nat) (es : List Nat) (n g vc : Nat) (pre : List (Hed ⊕ (Int × Int))) (H : List Hed) (O : Nat → Prop) (h : a = frH l CB ⟨at', es, n, g, vc, pre, H, O, fun i => a.tmps.getD i undef⟩) (hp : ∀ u, P ⟨at', es, n, g, vc, pre, H, O, u⟩) : ∃ s, a = frH l CB s ∧ P s := ⟨_, h, hp _⟩
theorem jumps_panic {J : Nat → Act → World → Prop} {Q : Exit → Act → World → Prop} {K : Act → World → Prop} (hQ : ∀ c a d v w, Q (.panic c) (a.put d v) w → Q (.panic c) a w) : ∀ c a d v w, Exit.then K (jumpsTo J Q) (.panic c) (a.put d v) w → Exit.then K (jumpsTo J Q) (.panic c) a w := hQ
theorem goes_run {f : Nat → Int} {a e : Nat} {r : List Nat} {H : List Hed} {c p : Int} (he : a < e) (hr : r ≠ []) (h : Goes f a (e :: r) H c p) : Run f a (e :: r) H c p := by
 cases r with
 | nil => exact absurd rfl hr
 | cons e2 r =>
  rcases h with ⟨h, -⟩ | ⟨es', h, k⟩
  ·rw [beh, if_pos he] at h; cases h
  ·rw [beh, if_pos he] at h
   obtain rfl := Option.some.inj h
   exact k
theorem goes_pop {f : Nat → Int} {a e : Nat} {r : List Nat} {H : List Hed} {c p : Int} (he : e ≤ a) (hr : r ≠ []) (h : Goes f a (e :: r) H c p) : Goes f a r H c p := by
 cases r with
 | nil => exact absurd rfl hr
 | cons e2 r =>
  have hb : beh a (e :: e2 :: r) = beh a (e2 :: r) := by rw [beh, if_neg (by omega)]
  unfold Goes at h
  rw [hb] at h
  exact h
theorem head_x {f : Nat → Int} {a e d : Nat} {r : List Nat} {H : List Hed} {c p : Int} (h : if (0 : Nat) = 0 then Run f a (e :: r) H c p else Goes f a (e :: r) H c p) (hd : r.length = d) :
  ∃ (x : Hed ⊕ (Int × Int)) (hv : List Value) (ev : Value) (R : List (Hed ⊕ (Int × Int))), rhV f a e d = .tuple #[.agg hv.toArray, ev] ∧ encH x = #[.agg hv.toArray, ev] ∧ hv.length = 4 ∧ (∀ v ∈ hv, v.oneCell' = true) ∧ tel H c p = x :: R ∧ ((ev = .nilIface ∧ (hdC f a e d).1 = 0 ∧ hv = hdV (hdOf f a e d) ∧ ∃ H', R = tel H' c p ∧ Goes f (if mdT (f a) then hdS f a e else hdE f a e) (if mdT (f a) then hdE f a e :: e :: r else e :: r) H' c p) ∨ ∃ c' p', ev = .iface 77 (.agg #[.int .i64 c', .int .i64 p']) ∧ R = []) := by
 rw [if_pos rfl] at h
 subst hd
 by_cases h0 : (hdC f a e r.length).1 = 0
 ·have hH : ∃ H', H = hdOf f a e r.length :: H' ∧ Goes f (if mdT (f a) then hdS f a e else hdE f a e) (if mdT (f a) then hdE f a e :: e :: r else e :: r) H' c p := by
   cases H with
   | nil =>
    obtain ⟨e', r', he, hc, -⟩ := h
    simp only [List.cons.injEq] at he
    obtain ⟨rfl, rfl⟩ := he
    exact absurd h0 hc
   | cons y H' =>
    obtain ⟨e', r', he, -, hy, hg⟩ := run_next h
    simp only [List.cons.injEq] at he
    obtain ⟨rfl, rfl⟩ := he
    exact ⟨H', by rw [hy], hg⟩
  obtain ⟨H', rfl, hg⟩ := hH
  exact ⟨.inl (hdOf f a e r.length), _, _, _, by unfold rhV; rw [if_pos h0], rfl, rfl, by simp [hdV, Value.oneCell'], rfl, .inl ⟨rfl, h0, rfl, H', rfl, hg⟩⟩
 ·have hH : H = [] ∧ c = (hdC f a e r.length).1 ∧ p = (hdC f a e r.length).2 := by
   cases H with
   | nil =>
    obtain ⟨e', r', he, hc, h1, h2⟩ := h
    simp only [List.cons.injEq] at he
    obtain ⟨rfl, rfl⟩ := he
    exact ⟨rfl, h1, h2⟩
   | cons y H' =>
    obtain ⟨e', r', he, hc, hy, -⟩ := run_next h
    simp only [List.cons.injEq] at he
    obtain ⟨rfl, rfl⟩ := he
    exact absurd hc h0
  obtain ⟨rfl, rfl, rfl⟩ := hH
  refine ⟨.inr (hdC f a e r.length), noH, fltV (hdC f a e r.length).1 (hdC f a e r.length).2, [], by unfold rhV; rw [if_neg h0], rfl, rfl, by simp [noH, Value.oneCell'], ?_, .inr ⟨_, _, rfl, rfl⟩⟩
  unfold tel
  rw [if_neg h0]
  rfl
theorem wpListIn_ld {F : Fence} {n : Nat} {P : Program} {w : World} {ops : Array Oper} {rest : List Oper} {o : Oper} {a : Act} {Q : Exit → Act → World → Prop} (hg : o.guard = none) (ty : TypeId) (x : Operand) (ho : o.op = .load ty x) (q : Addr) (hp : a.eval x = .pointer (some q)) (v : Value) (hl : (loadVar ty q).run P w = .ok v w)
  (h : wpListIn F n P ops Q rest (a.put o.dst v) w) : wpListIn F n P ops Q (o :: rest) a w := by
 refine wpListIn_plain hg fun K hK => ?_
 unfold Oper.wpIn
 refine ⟨by simp [Oper.about, ho], ?_⟩
 rw [Oper.semAt_plain F _ _ (by rw [ho]; intro c hc'; cases hc')]
 simp [execOp, ho, hp, Instr.loadAt, Instr.sureAddr, hl, Sem.run_bind, Sem.run_pure, Result.andThen]
 exact hK _ _ h
theorem wp_st1 {P : Program} {o : Oper} {a : Act} {K : Act → World → Prop} {Q : Exit → Act → World → Prop} {w w2 : World} (ty : TypeId) (x y : Operand) (ho : o.op = .store ty x y) (vx : Value) (hx : a.eval x = vx) (vy : Value) (hy : a.eval y = vy) (hl : (Instr.storeAt ty vx vy).run P w = .ok () w2) (h : K (a.put o.dst undef) w2) : o.wp P a w K Q := by
 unfold Oper.wp execOp
 simp only [ho, hx, hy, Sem.run_bind, Sem.run_pure, Result.andThen_ok, hl]
 exact h
def sLen : Value → Nat | .slice _ k _ => k | _ => 0
def muH (bn l : Nat) (a : Act) (_ : World) : Nat := 4 * (bn - (intOf (a.tmps.getD 4 undef)).toNat) + 2 * sLen (a.tmps.getD 3 undef) + l
set_option maxHeartbeats 12800000 in
set_option maxRecDepth 100000 in
theorem heads1_inV (n : Nat) (hn1 : 1 ≤ n) (bn CB b off cap : Nat) (f : Nat → Int) (H : List Hed) (c p : Int) (w0 : World) (hbn : bn ≤ 4000) (hcap : bn ≤ cap) (hcap2 : cap ≤ 9223372036854775807) (hf : ∀ i, i < bn → 0 ≤ f i ∧ f i < 256) (ad : Option Addr)
  (hCB : w0.cell? ⟨CB, 0, none⟩ = some (.slice ad bn cap)) (hs : BSeg w0 ad b off bn f) (hR : Run f 0 [bn] H c p) :
  TellsV (α := Hed ⊕ (Int × Int)) n Tryz.prog 110 #[.pointer (some ⟨CB, 0, none⟩)] encH (fun pre x => pre ++ [x] <+: tel H c p) (fun xs => xs = tel H c p) (fun pre => pre <+: tel H c p) 4001 (fun k => k = CB ∨ (0 < bn ∧ k = b)) w0 := by
 intro l J Jx W hW hJ hJx hY h0
 have ltC : CB < w0.heap.size := World.block_lt_of_cell? _ _ hCB
 have HXl : Hid (∀ k, (k = CB ∨ (0 < bn ∧ k = b)) → k < W.heap.size) := fun k hk => by
  have := hW.size
  rcases hk with rfl | ⟨h, rfl⟩
  ·omega
  ·have := hs.lt h; omega
 have HK : Hid (∀ wr : World, (∀ k, (k = CB ∨ (0 < bn ∧ k = b)) → wr.heap[k]? = W.heap[k]?) → wr.cell? ⟨CB, 0, none⟩ = some (.slice ad bn cap) ∧ BSeg wr ad b off bn f) := fun wr hr => by
  refine ⟨?_, ⟨hs.at', fun i hi => ?_⟩⟩
  ·rw [World.cell?_of_block (a := ⟨CB, 0, none⟩) (hr CB (.inl rfl))]
   exact (hW.cell (p := ⟨CB, 0, none⟩) ltC).trans hCB
  ·rw [World.cell?_of_block (a := ⟨b, off + i, none⟩) (hr b (.inr ⟨by omega, rfl⟩))]
   exact (hW.cell (p := ⟨b, off + i, none⟩) (hs.lt (by omega))).trans (hs.cell i hi)
 obtain ⟨T, hT⟩ : ∃ T, tel H c p = T := ⟨_, rfl⟩
 obtain ⟨X, hX⟩ : ∃ X : Nat → Prop, X = fun k => k = CB ∨ (0 < bn ∧ k = b) := ⟨_, rfl⟩
 rw [hT] at hY ⊢
 have HXl2 : Hid (∀ k, X k → k < W.heap.size) := by rw [hX]; exact HXl
 have HK2 : Hid (∀ wr : World, (∀ k, X k → wr.heap[k]? = W.heap[k]?) → wr.cell? ⟨CB, 0, none⟩ = some (.slice ad bn cap) ∧ BSeg wr ad b off bn f) := by rw [hX]; exact HK
 clear HXl HK
 have HXl := HXl2
 have HK := HK2
 clear HXl2 HK2
 rw [← hX] at hY
 have HTl : Hid (∀ pre H', pre ++ tel H' c p = T → pre.length < 4001) := fun pre H' h => by
  have h1 := (run_ok H 0 [bn] c p hR (fun e he => by rw [List.mem_singleton.1 he]; exact Nat.le_refl _) (Nat.zero_le _)).1
  have h2 := tel_len H c p
  have h3 : T.length = pre.length + (tel H' c p).length := by rw [← h, List.length_append]
  rw [hT] at h2
  omega
 have cB := (HK.out W (fun _ _ => rfl)).1
 have HJ := hide hJ
 have HJx := hide hJx
 have HY := hide hY
 have HR := hide hR
 have HT := hide hT
 have Hf := hide hf
 have HW := hide hW
 have H0 := hide h0
 clear hJ hJx hY hR hT hf hW h0 hs hCB ltC hX
 refine callsIn_of_wp Tryz.func110 rfl trivial ?_ rfl
 simp only [Tryz.ntmps110, List.size_toArray, List.length_cons, List.length_nil, Nat.reduceAdd, Nat.reduceSub, Array.replicate_succ, Array.replicate_zero, List.push_toArray, List.append_toArray, List.nil_append, List.cons_append]
 gi_wp2
 rename_i QB
 have HQB : ∀ c a d v w, QB (.panic c) (a.put d v) w → QB (.panic c) a w := fun _ _ d _ _ h => by cases d <;> exact h
 refine wpIn_scope_two rfl rfl (fun lb a' w' => lb ≤ 1 ∧ ∃ s : HSt, a' = frH l CB s ∧ HdI f bn W X J T c p lb s.at' s.es s.n s.g s.vc s.pre s.H s.O w') (muH bn) (fun l a w h => by have := h.1; omega) ?leaf1 ?leaf0 ?first
 case leaf1 =>
  rintro M a w ⟨-, ⟨at', es, ne, g, vc, pre, H', O, u⟩, rfl, hi⟩ hM
  dsimp only at hi
  rw [frH]
  dsimp only
  have HM0 : 4 * (bn - at') + 2 * ne + 1 ≤ M := by
   have : muH bn 1 (frH l CB ⟨at', es, ne, g, vc, pre, H', O, u⟩) w ≤ M := hM
   simpa [muH, frH, sLen, intOf] using this
  have HM := hide HM0
  clear hM HM0
  obtain ⟨e, r, rfl⟩ : ∃ e r, es = e :: r := by
   cases es with
   | nil => exact absurd rfl hi.ne
   | cons e r => exact ⟨e, r, rfl⟩
  obtain ⟨d, hd⟩ : ∃ d, r.length = d := ⟨_, rfl⟩
  obtain rfl : ne = d + 1 := by have := hi.nn; simp at this; omega
  have hrow := hi.rw
  have Hi := hide hi
  clear hi
  rw [esL_cons] at hrow
  have hl2 : (esL r ++ [(e : Int)]).length = d + 1 := by rw [List.length_append, esL_len, hd]; rfl
  rw [← hl2] at hrow
  obtain ⟨g', gc, hgv, hgB, hgc, hgc2, cc, cf⟩ := owns_last hrow
  simp only [Value.slice.injEq, Option.some.injEq, Addr.mk.injEq] at hgv
  obtain ⟨⟨rfl, -, -⟩, -, rfl⟩ := hgv
  rw [esL_len, hd] at cc
  rw [hl2] at hgc
  have Hrow := hide hrow
  have Hl2 := hide hl2
  have Hd := hide hd
  clear hrow cf hgB hl2
  have h14 : d ≤ 13 := by have := Hi.out.ln; simp at this; omega
  have hat := Hi.out.at'
  have hle := Hi.out.le e (List.mem_cons.2 (.inl rfl))
  clear hd
  by_cases hd0 : d = 0
  ·have hz : ((d : Int) + 1 == 1) = true := by rw [hd0]; rfl
   have hr : r = [] := List.length_eq_zero_iff.1 (Hd.out.trans hd0)
   have hx := Hi.out.nx
   rw [if_neg (by omega), hr] at hx
   have hfin : pre = T := by
    rcases hx with ⟨-, rfl, rfl, -⟩ | ⟨es', hb, -⟩
    ·have := Hi.out.tl
     simpa [tel] using this
    ·simp [beh] at hb
   have Hfin := hide hfin
   clear hd0 hr hx hfin
   gi_wp2
   refine jumpsTo_ret1 ?_
   refine bodyPost_ret (results_none rfl _ _ _) rfl ?_
   exact ⟨⟨_, rfl⟩, .inl ⟨pre, O, Hfin.out, Hi.out.jp⟩⟩
  ·have hz : ((d : Int) + 1 == 1) = false := by simp; omega
   have hrn : r ≠ [] := fun h => hd0 (by rw [← Hd.out, h]; rfl)
   have Hrn := hide hrn
   clear hd0 hrn
   have hq1 : (0 : Int) ≤ (d : Int) + 1 - 1 := by omega
   by_cases hae : at' < e
   ·have hae' : (at' : Int) < (e : Int) := by omega
    gi_wp2
    refine wpIn_goto ?_
    refine jumpsTo_goto ?_
    refine ⟨⟨Nat.zero_le _, ex_st at' (e :: r) (d + 1) g vc pre H' O rfl (fun u' => ?_)⟩, ?_⟩
    ·exact { Hi.out with nx := by rw [if_pos rfl]; have := Hi.out.nx; rw [if_neg (by omega)] at this; exact goes_run hae Hrn.out this }
    ·have := HM.out
     simp [muH, sLen, intOf]
     omega
   ·have hae' : ¬ (at' : Int) < (e : Int) := by omega
    have HO2 := hide (owns_cut Hrow.out)
    gi_wp2
    refine wpIn_goto ?_
    refine jumpsTo_goto1 ?_
    refine ⟨⟨Nat.le_refl _, ex_st at' r d g vc pre H' O rfl (fun u' => ?_)⟩, ?_⟩
    ·exact { Hi.out with
      nn := Hd.out
      nx := by rw [if_neg (by omega)]; have := Hi.out.nx; rw [if_neg (by omega)] at this; exact goes_pop (Nat.le_of_not_lt hae) Hrn.out this
      ne := Hrn.out
      le := fun x hx => Hi.out.le x (List.mem_cons.2 (.inr hx))
      ln := by rw [Hd.out]; omega
      rw := by have := HO2.out; rw [esL_len, Hd.out] at this; exact this }
    ·have := HM.out
     simp [muH, sLen, intOf]
     omega
 case leaf0 =>
  intro L1
  have HL1 := hide L1
  clear L1
  rintro M a w ⟨-, ⟨at', es, ne, g, vc, pre, H', O, u⟩, rfl, hi⟩ hM
  dsimp only at hi
  rw [frH]
  dsimp only
  have HM0 : 4 * (bn - at') + 2 * ne ≤ M := by
   have : muH bn 0 (frH l CB ⟨at', es, ne, g, vc, pre, H', O, u⟩) w ≤ M := hM
   simpa [muH, frH, sLen, intOf] using this
  have HM := hide HM0
  clear hM HM0
  obtain ⟨e, r, rfl⟩ : ∃ e r, es = e :: r := by
   cases es with
   | nil => exact absurd rfl hi.ne
   | cons e r => exact ⟨e, r, rfl⟩
  obtain ⟨d, hd⟩ : ∃ d, r.length = d := ⟨_, rfl⟩
  obtain rfl : ne = d + 1 := by have := hi.nn; simp at this; omega
  have hrow := hi.rw
  have Hi := hide hi
  clear hi
  rw [esL_cons] at hrow
  have hl2 : (esL r ++ [(e : Int)]).length = d + 1 := by rw [List.length_append, esL_len, hd]; rfl
  rw [← hl2] at hrow
  obtain ⟨g', gc, hgv, hgB, hgc, hgc2, cc, cf⟩ := owns_last hrow
  simp only [Value.slice.injEq, Option.some.injEq, Addr.mk.injEq] at hgv
  obtain ⟨⟨rfl, -, -⟩, -, rfl⟩ := hgv
  rw [esL_len, hd] at cc
  rw [hl2] at hgc
  have Hrow := hide hrow
  have Hl2 := hide hl2
  have Hd := hide hd
  clear hrow cf hgB hl2
  have h14 : d ≤ 13 := by have := Hi.out.ln; simp at this; omega
  have hat := Hi.out.at'
  have hle := Hi.out.le e (List.mem_cons.2 (.inl rfl))
  clear hd
  have hq1 : (0 : Int) ≤ (d : Int) + 1 - 1 := by omega
  obtain ⟨cl, hsB⟩ := HK.out w Hi.out.ke
  have HR : Hid (∀ q : ReC (fun _ => False) w, Calls Tryz.prog 111 #[.slice ad e cap, .int .i64 (at' : Int), .int .i64 (d : Int)] q.val fun en w' => en = .returned (rhV f at' e d) ∧ Ext q.val w') := fun q =>
   readHead_any ad b off e cap f at' d q.val ((hsB.cut hle).of_all ⟨q.ok.os, q.ok.tape, q.ok.output, q.ok.size, fun k hk => q.ok.block k hk (fun h => h)⟩) (fun i hi => Hf.out i (by omega)) (by omega) hcap2 (by omega) (by omega) (by omega)
  have f1 := fun q => cell_reC (X := fun _ => False) cl (fun h => h) q
  have f2 := fun q => cell_reC (X := fun _ => False) cc (fun h => h) q
  have wd : IntKind.i64.wrap (d : Int) = (d : Int) := by rw [IntKind.wrap_i64]; omega
  have hd1 : d + 1 ≤ vc := hgc
  have he1 : e ≤ cap := by omega
  have hdi : (d : Int) < (d : Int) + 1 := by omega
  clear hsB
  obtain ⟨x, hv, ev, R, hRV, hx, hv4, hv1, htl, hcs⟩ := head_x (f := f) Hi.out.nx Hd.out
  rw [hRV] at HR
  have Hv4 := hide hv4
  have Hv1 := hide hv1
  have Htl := hide htl
  have Hx := hide hx
  have HRV := hide hRV
  have Hcs := hide hcs
  clear hRV hx hv4 hv1 htl hcs
  gi_wp2_with fail
  refine wpIn_wide.2 ?_
  refine anyK_begin (fun _ => False) 19 rfl (by kernel_rfl) ?_
  refine anyK_take 0 16 3 rfl (by decide) (by kernel_rfl) (jumps_panic HQB) ?_
  repeat (refine headC_step (fun K hK => ?_); go_simp; first | (refine hK _ ?_; clear hK K) | (apply Exists.intro; refine ⟨fun _ => ?_, hK _ ?_⟩; (exact Calls.re_of (HR.out _)); clear hK K))
  refine headC_nil ?_
  clear f1 f2
  refine anyK_one 16 (by kernel_rfl) ?_
  refine stepK_run rfl ?_
  intro w3 h3 K2 hK2
  go_simp
  refine hK2 _ _ (.of_ext (Ext.trans h3 (Ext.alloc _ _))) ?_
  clear hK2 K2
  have B0 := Blk.alloc w3 noH 116
  have E4 := hide (Ext.trans h3 (Ext.alloc w3 (.cells #[.int .i64 0, .int .i64 0, .int .i64 0, .int .i64 0] 116)))
  refine anyK_one 17 (by kernel_rfl) ?_
  refine stepK_run rfl ?_
  intro w5 h5 K2 hK2
  have B5 := B0.ext h5 (by simp)
  have hst := run_st (P := Tryz.prog) 116 hv w5 (by rw [Hv4.out]; kernel_rfl) Hv1.out w3.heap.size 0 (Blk.st B5 0 _ (by rw [Hv4.out]; simp [noH]))
  rw [if_pos (show _ = true by kernel_rfl)]
  refine wp_st1 116 _ _ rfl _ rfl _ rfl hst ?_
  have BH := Blk.putAll1 B5 (vs := hv) (by rw [Hv4.out]; rfl)
  have EV : Ext w (putL w3.heap.size 0 hv w5) := below_putL (by have := Below.size h3; omega) hv 0 _ (Ext.trans E4.out h5)
  refine hK2 _ _ (.of_ext EV) ?_
  clear hK2 K2 B0 B5 hst E4
  obtain ⟨V, hV⟩ : ∃ V, putL w3.heap.size 0 hv w5 = V := ⟨_, rfl⟩
  have hbx : w.heap.size ≤ w3.heap.size := Below.size h3
  rw [hV] at BH EV ⊢
  generalize w3.heap.size = BX at *
  clear hV h3 h5
  refine anyK_one 18 (by kernel_rfl) ?_
  refine stepK_run rfl ?_
  intro w6 h6 K2 hK2
  go_simp
  refine hK2 _ _ (.of_ext (Ext.trans EV h6)) ?_
  clear hK2 K2
  refine anyK_done (by kernel_rfl) ?_ 0
  intro w7 h7
  have HE := hide (Ext.trans EV (Ext.trans h6 h7))
  have HBX := hide (BH.ext (Ext.trans h6 h7) (BH.lt (by rw [Hv4.out]; omega)))
  clear EV BH h6 h7 V
  have HO2k : Hid (∀ k, Oup O w w7 k → W.heap.size ≤ k ∧ k < w7.heap.size) := fun k hk => by
   have hz := Below.size HE.out
   rcases hk with h | h
   ·have := Hi.out.ob k h; omega
   ·have := Hi.out.sz; omega
  have HJ7 := hide (HJ.out pre O (Oup O w w7) w w7 Hi.out.jp (stp_of (grow_ext HE.out)))
  have HV7 : Hid (pre ++ [x] <+: T) := ⟨R, by rw [← Hi.out.tl, Htl.out, List.append_assoc]; rfl⟩
  have HX7 : Hid (∀ k, X k → w7.heap[k]? = W.heap[k]?) := fun k hk => (Below.block HE.out k (by have := HXl.out k hk; have := Hi.out.sz; omega)).trans (Hi.out.ke k hk)
  have HZ7 : Hid (W.heap.size ≤ w7.heap.size) := Nat.le_trans Hi.out.sz (Below.size HE.out)
  have HRow7 := hide (iowns_ext0 Hrow.out HE.out)
  obtain ⟨fn, tmps, assign, body, hy, hRn⟩ := HY.out (Oup O w w7) pre x w7 HJ7.out HV7.out HO2k.out HZ7.out (HTl.out pre H' Hi.out.tl)
  rw [Hx.out] at hy
  have HRn := hide hRn
  clear hRn
  have hld := run_ld (P := Tryz.prog) 116 hv w7 (by rw [Hv4.out]; kernel_rfl) (by kernel_rfl) BX 0 (Blk.ld HBX.out 0 _ (fun j v h => by rw [Nat.zero_add]; exact h))
  gi_wp2_with (refine wpListIn_ld rfl 116 _ rfl _ rfl _ hld ?_)
  refine HRn.out.mono ?_
  rintro ey W3 (⟨rfl, hJ3, hk3⟩ | ⟨rfl, hJx3⟩)
  case inr =>
   clear hld hy HRn
   gi_wp2
   refine jumpsTo_ret1 ?_
   refine bodyPost_ret (results_none rfl _ _ _) rfl ?_
   exact ⟨⟨_, rfl⟩, .inr ⟨pre ++ [x], _, HV7.out, hJx3⟩⟩
  have HJ3 := hide hJ3
  have Hk3 := hide hk3
  clear hJ3 hk3 hld hy HRn
  rcases Hcs.out with ⟨rfl, hh0, rfl, H'', hRt, hgo⟩ | ⟨c', p', rfl, hRn⟩
  case inr =>
   have hnf := ne_nil_flt
   gi_wp2
   refine jumpsTo_ret1 ?_
   refine bodyPost_ret (results_none rfl _ _ _) rfl ?_
   refine ⟨⟨_, rfl⟩, .inl ⟨pre ++ [x], _, ?_, HJ3.out⟩⟩
   rw [← Hi.out.tl, Htl.out, hRn]
  have HOk3 : Hid (∀ k, Oup O w w7 k → W.heap.size ≤ k ∧ k < W3.heap.size) := fun k hk => by have := HO2k.out k hk; have := Hk3.out.size; omega
  have HX3 : Hid (∀ k, X k → W3.heap[k]? = W.heap[k]?) := fun k hk => (Hk3.out.same k (.inr hk) (by have := HXl.out k hk; have := HZ7.out; omega)).trans (HX7.out k hk)
  have HZ3 : Hid (W.heap.size ≤ W3.heap.size) := Nat.le_trans HZ7.out Hk3.out.size
  have HRow3 := hide (owns_rdo Hk3.out HRow7.out (fun q hq => by simp only [Value.ownBlock, Option.some.injEq] at hq; subst hq; exact .inl Hi.out.og))
  have hBlt := HBX.out.lt (show 0 < (hdV (hdOf f at' e d)).length by simp [hdV])
  have hB3 : W3.heap[BX]? = w7.heap[BX]? := Hk3.out.same BX (.inl (.inr ⟨hbx, hBlt⟩)) hBlt
  have c0 := (World.cell?_of_block (a := ⟨BX, 0, none⟩) hB3).trans (HBX.out 0 (.int .i64 (f at')) rfl).1
  have c1 := (World.cell?_of_block (a := ⟨BX, 1, none⟩) hB3).trans (HBX.out 1 (.int .i64 (hdS f at' e : Int)) rfl).1
  have c2 := (World.cell?_of_block (a := ⟨BX, 2, none⟩) hB3).trans (HBX.out 2 (.int .i64 (hdE f at' e : Int)) rfl).1
  have hok := hdC_ok hh0
  have hft := Hf.out at' (by omega)
  have HMd : Hid (∀ W, Calls Tryz.prog 77 #[.int .i64 (f at')] W fun e w' => e = .returned (.bool (mdT (f at'))) ∧ w' = W) := fun W => isMade_any (f at') W hft.1 (by omega)
  have HT3 : Hid ((pre ++ [x]) ++ tel H'' c p = T) := by
   show _ = _
   rw [← Hi.out.tl, Htl.out, hRt, List.append_assoc]
   rfl
  have Hgo := hide hgo
  have hse := hok.2.2.2.2.2.2
  have hsa := hok.2.2.2.2.2.1
  have hee := hok.2.2.2.2.1
  have hd12 := hok.2.2.1
  clear hB3 hBlt hh0 hRt hgo hok hft Hcs HBX HX7 HRow7 HO2k HJ7 HV7 HZ7 HRV Hx Htl
  generalize hdE f at' e = en at *
  generalize hdS f at' e = st at *
  generalize f at' = tg at *
  generalize mdT tg = md at *
  have hnf : (binOp .neq 73 .nilIface .nilIface).run Tryz.prog W3 = .ok (.bool false) W3 := by kernel_rfl
  gi_wp2_with fail
  refine ⟨trivial, ?_⟩
  refine (callsIn_wide.2 (HMd.out _)).mono ?_
  rintro e' w' ⟨rfl, hw⟩
  rw [hw]
  clear hw hnf w'
  dsimp only
  cases md
  case false =>
   simp only [Bool.false_eq_true, if_false] at Hgo
   gi_wp2
   refine wpIn_label ?_
   gi_step
   gi_step
   refine HL1.out M _ _ ⟨Nat.le_refl _, ?_⟩ ?_
   ·refine ex_st en (e :: r) (d + 1) g vc (pre ++ [x]) H'' (Oup O w w7) rfl (fun u' => ?_)
    exact { nn := by simp [Hd.out]
            nx := by rw [if_neg (by omega)]; exact Hgo.out
            ne := by simp
            le := Hi.out.le
            ln := Hi.out.ln
            at' := by show en ≤ bn; omega
            tl := HT3.out
            jp := HJ3.out
            sz := HZ3.out
            ke := HX3.out
            ob := HOk3.out
            og := .inl Hi.out.og
            rw := by have := HRow3.out; rw [Hl2.out] at this; rw [esL_cons]; exact this }
   ·have := HM.out
    simp [muH, sLen, intOf]
    omega
  case true =>
   simp only [if_true] at Hgo
   obtain ⟨i0, hi, hz0, hz1, hz2⟩ := info_parts Tryz.info3
   have HRow4 : Hid (W3.ownsRow W.heap.size 3 1 (.slice (some ⟨g, 0, none⟩) (d + 1) vc) (d + 1) (iys (esL r ++ [(e : Int)]))) := by have := HRow3.out; rw [Hl2.out] at this; exact this
   gi_wp2_with (gi_at_builtin; refine Hid.out ?_)
   refine hide ?_
   refine wpListIn_append_own_at _ rfl _ _ 24 rfl W.heap.size 3 i0 (.int .i64 0) 1 8 Tryz.underlying24 hi hz0 hz1 hz2 rfl (by decide) _ _ _ rfl (HRow4.out.alloc _) ⟨W3.heap.size, 0, none⟩ 1 1 [.int .i64 (en : Int)] rfl rfl (cell_one_new _ _ _) (iys_one _) (by unfold maxLen; omega) (by omega) (by have := HZ3.out; simp; omega) ?_
   intro v' w4 hown' hgrow hnil hat'
   have hgrow2 : (W3.alloc (.cells #[.int .i64 (en : Int)] 3)).grownBy w4 (Value.slice (some ⟨g, 0, none⟩) (d + 1) vc).ownBlock := hgrow
   have HB4 := hide (below_append HZ3.out HRow4.out hgrow2)
   have hown2 : w4.ownsRow W.heap.size 3 1 v' (d + 2) (iys ((esL r ++ [(e : Int)]) ++ [(en : Int)])) := by
    have := hown'
    simpa [iys] using this
   have hl3 : ((esL r ++ [(e : Int)]) ++ [(en : Int)]).length = d + 2 := by rw [List.length_append, Hl2.out]; rfl
   rw [← hl3] at hown2
   obtain ⟨g2, vc2, hv2, hg2B, hc2, hc22, -, -⟩ := owns_last hown2
   rw [hl3] at hown2 hv2 hc2
   subst hv2
   have HS4 := hide (stp_append (O := Oup O w w7) hgrow2 (fun q hq => by simp only [Value.ownBlock, Option.some.injEq] at hq; subst hq; exact .inl Hi.out.og))
   have HRow5 := hide hown2
   have hg2l := (hown2.lt g2 rfl).2
   have HJ4 := hide (HJ.out _ _ _ W3 w4 HJ3.out HS4.out)
   have HX4 : Hid (∀ k, X k → w4.heap[k]? = W.heap[k]?) := fun k hk => (HB4.out.block k (HXl.out k hk)).trans (HX3.out k hk)
   have HOk4 : Hid (∀ k, Oup (Oup O w w7) W3 w4 k → W.heap.size ≤ k ∧ k < w4.heap.size) := fun k hk => by
    have hs := HB4.out.size
    rcases hk with h | h
    ·have := HOk3.out k h; omega
    ·have := HZ3.out; omega
   have Hg2 : Hid (Oup (Oup O w w7) W3 w4 g2) := by
    rcases (show (Value.slice (some ⟨g2, 0, none⟩) (d + 2) vc2).ownBlock = (Value.slice (some ⟨g, 0, none⟩) (d + 1) vc).ownBlock ∨ (Value.slice (some ⟨g2, 0, none⟩) (d + 2) vc2).ownBlock = some ((W3.alloc (.cells #[.int .i64 (en : Int)] 3)).heap.size) from hat') with h | h
    ·simp only [Value.ownBlock, Option.some.injEq] at h
     subst h
     exact .inl (.inl Hi.out.og)
    ·simp only [Value.ownBlock, Option.some.injEq] at h
     refine .inr ⟨by rw [h]; simp, hg2l⟩
   have HZ4 := hide (Nat.le_trans HZ3.out HB4.out.size)
   clear hown' hown2 hgrow hgrow2 hnil hat' hl3 hg2l HS4 HB4
   gi_wp2
   refine wpIn_label ?_
   gi_step
   gi_step
   refine HL1.out M _ _ ⟨Nat.le_refl _, ?_⟩ ?_
   ·refine ex_st st (en :: e :: r) (d + 2) g2 vc2 (pre ++ [x]) H'' (Oup (Oup O w w7) W3 w4) rfl (fun u' => ?_)
    exact { nn := by simp [Hd.out]
            nx := by rw [if_neg (by omega)]; exact Hgo.out
            ne := by simp
            le := fun y hy => by rcases List.mem_cons.1 hy with rfl | hy; exact Nat.le_trans hee hle; exact Hi.out.le y hy
            ln := by have := Hd.out; simp; omega
            at' := by show st ≤ bn; omega
            tl := HT3.out
            jp := HJ4.out
            sz := HZ4.out
            ke := HX4.out
            ob := HOk4.out
            og := Hg2.out
            rw := by rw [esL_cons, esL_cons]; exact HRow5.out }
   ·have := HM.out
    simp [muH, sLen, intOf]
    omega
 case first =>
  intro L0
  have HL0 := hide L0
  clear L0
  have hO0 : Hid ((W.alloc (.cells #[.int .i64 (bn : Int)] 3)).ownsRow W.heap.size 3 1 (.slice (some ⟨W.heap.size, 0, none⟩) 1 1) 1 [.int .i64 (bn : Int)]) := World.ownsRow_lit (e := 3) (size := 1) (base := W.heap.size) W #[.int .i64 (bn : Int)] 1 (Nat.le_refl _) (by decide) rfl
  have HJ1 := hide (HJ.out [] _ _ _ _ H0.out (stp_alloc (fun _ => False) W (.cells #[.int .i64 (bn : Int)] 3)))
  gi_wp2
  refine wpIn_label ?_
  gi_step
  gi_step
  refine HL0.out _ _ ⟨Nat.zero_le _, ?_⟩
  refine ex_st 0 [bn] 1 W.heap.size 1 [] H (Oup (fun _ => False) W (W.alloc (.cells #[.int .i64 (bn : Int)] 3))) rfl (fun u' => ?_)
  exact { nn := rfl
          nx := by rw [if_pos rfl]; exact HR.out
          ne := by simp
          le := fun e he => by rw [List.mem_singleton.1 he]; exact Nat.le_refl _
          ln := by simp
          at' := Nat.zero_le _
          tl := HT.out
          jp := HJ1.out
          sz := by simp
          ke := fun k hk => Below.heap_alloc _ _ _ (HXl.out k hk)
          ob := fun k hk => by
           rcases hk with h | h
           ·exact h.elim
           ·simp at h ⊢; omega
          og := .inr ⟨Nat.le_refl _, by simp⟩
          rw := hO0.out }
end Go.Proofs.YtkogbinfhoiggaaGreatDoor
