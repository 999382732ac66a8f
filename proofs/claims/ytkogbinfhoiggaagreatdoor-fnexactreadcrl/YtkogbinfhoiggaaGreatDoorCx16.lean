/- Walks: the program's readTree (written by mkrdb.py). -/
import Derived.Test.YtkogbinfhoiggaaGreatDoorCx15
namespace Go.Proofs.YtkogbinfhoiggaaGreatDoor
set_option linter.unusedVariables false
set_option linter.unusedSimpArgs false
open Go.RowKit Go.Shelf
attribute [local go_sem] Oper.semAt_some
theorem heads_any (a : Option Addr) (n c : Nat) (w : World) : Calls Tryz.prog 76 #[.slice a n c] w fun e w' => e = .returned (.func (.func 110) #[] #[.pointer (some ⟨w.heap.size, 0, none⟩)]) ∧ w' = w.alloc (.cells #[.slice a n c] 22) := by
 go_enter Tryz.func76, Tryz.ntmps76
 go_wp2
 go_ret
 exact ⟨rfl, rfl⟩
def hedV : Hed ⊕ (Int × Int) → List Value
 | .inl h => hdV h
 | .inr _ => noH
def hedE : Hed ⊕ (Int × Int) → Value
 | .inl _ => .nilIface
 | .inr cp => fltV cp.1 cp.2
theorem encH_eq (x : Hed ⊕ (Int × Int)) : encH x = #[.agg (hedV x).toArray, hedE x] := by cases x <;> rfl
def onlyN (Q : Exit → Act → World → Prop) : Exit → Act → World → Prop
 | .normal, a, w => Q .normal a w
 | _, _, _ => False
theorem onlyN_le {Q : Exit → Act → World → Prop} {e : Exit} {a : Act} {w : World} (h : onlyN Q e a w) : Q e a w := by
 cases e with
 | normal => exact h
 | _ => exact h.elim
structure RtX (w : World) (c p : Int) (O : Nat → Prop) (W : World) : Prop where
 cn : c ≠ 0
 c1 : W.cell? ⟨w.heap.size + 1, 0, none⟩ = some (.slice none 0 0)
 c2 : W.cell? ⟨w.heap.size + 2, 0, none⟩ = some (fltV c p)
 ours : ∀ k, O k → w.heap.size + 9 ≤ k
 big : w.heap.size + 9 ≤ W.heap.size
 ext : Ext w W
theorem RtX.ab {w : World} {c p : Int} : AbO (fun O W => RtX w c p O W) := fun O O' A C h hs => by
 have hbig := h.big
 have hsz := hs.size
 have bk : ∀ k, k < w.heap.size + 9 → C.heap[k]? = A.heap[k]? := fun k hk => hs.same k (by omega) (fun h' => by have := h.ours k h'; omega)
 exact { cn := h.cn
         c1 := (World.cell?_of_block (a := ⟨w.heap.size + 1, 0, none⟩) (bk (w.heap.size + 1) (by omega))).trans h.c1
         c2 := (World.cell?_of_block (a := ⟨w.heap.size + 2, 0, none⟩) (bk (w.heap.size + 2) (by omega))).trans h.c2
         ours := fun k hk => by
          rcases (hs.own k).1 hk with k1 | k1
          ·exact h.ours k k1
          ·omega
         big := by omega
         ext := ⟨hs.os.trans h.ext.os, hs.tape.trans h.ext.tape, hs.output.trans h.ext.output, Nat.le_trans h.ext.size hs.size, fun k hk => (bk k (by omega)).trans (h.ext.block k hk)⟩ }
def GivesRt (f : Nat → Int) (bn : Nat) (w : World) (H : List Hed) (c p : Int) (e : Ending) (w' : World) : Prop :=
 ∃ v u, e = .returned (.tuple #[v, u]) ∧ Ext w w' ∧ ((c ≠ 0 ∧ u = fltV c p) ∨ (c = 0 ∧ 300 < (H.foldl (addH f) ([], [])).1.length ∧ u = fltV 7 0) ∨
  (c = 0 ∧ ¬ 300 < (H.foldl (addH f) ([], [])).1.length ∧ H.foldl topF 0 < bn ∧ u = fltV 5 (H.foldl topF 0 : Nat)) ∨
  (c = 0 ∧ ¬ 300 < (H.foldl (addH f) ([], [])).1.length ∧ ¬ H.foldl topF 0 < bn ∧ u = .nilIface ∧ ∃ L, LAcc w.heap.size w' v L ∧ (L.map ct = (H.foldl (addH f) ([], [])).1 ∧ CpL L)))
theorem results_2c {P : Program} {fn : Func} {a b : Nat} {T U : TypeId} (hf : fn.results = #[.cell a T, .cell b U]) {tmps : Array Value} {q r : Addr} {v u : Value} {W : World} (ht : tmps.getD a undef = .pointer (some q)) (hu : tmps.getD b undef = .pointer (some r)) (hl : (loadVar T q).run P W = .ok v W) (hm : (loadVar U r).run P W = .ok u W) : (results fn tmps).run P W = .ok (.tuple #[v, u]) W := by
 unfold results
 rw [hf]
 rw [Array.getD_eq_getD_getElem?] at ht hu
 simp [ht, hu, asAddr, hl, hm, Sem.run_bind, Sem.run_pure, Result.andThen_ok]
theorem ld_items (q : Addr) (v : Value) (W : World) (h : W.cell? q = some v) : (loadVar 35 q).run Tryz.prog W = .ok v W := by
 simp [loadVar, isAgg, underlying, Tryz.underlying35, h, Result.andThen]
theorem ld_error (q : Addr) (v : Value) (W : World) (h : W.cell? q = some v) : (loadVar 73 q).run Tryz.prog W = .ok v W := by
 simp [loadVar, isAgg, underlying, Tryz.underlying73, h, Result.andThen]
theorem inl_inj : ∀ {A B : List Hed}, A.map (Sum.inl (β := Int × Int)) = B.map Sum.inl → A = B
 | [], [], _ => rfl
 | [], b :: B, h => by simp at h
 | a :: A, [], h => by simp at h
 | a :: A, b :: B, h => by
  simp only [List.map_cons, List.cons.injEq] at h
  rw [Sum.inl.inj h.1, inl_inj h.2]
theorem inl_pre {A B : List Hed} (h : A.map (Sum.inl (β := Int × Int)) <+: B.map Sum.inl) : A <+: B := by
 obtain ⟨t, ht⟩ := h
 obtain ⟨l1, l2, h1, h2, h3⟩ := List.map_eq_append_iff.1 ht.symm
 exact ⟨l2, by rw [h1, inl_inj h2]⟩
theorem tel_inl {H Hs : List Hed} {c p : Int} (h : Hs.map Sum.inl = tel H c p) : c = 0 ∧ Hs = H := by
 unfold tel at h
 by_cases c0 : c = 0
 ·rw [if_pos c0, List.append_nil] at h
  exact ⟨c0, inl_inj h⟩
 ·rw [if_neg c0] at h
  have hm : (Sum.inr (c, p) : Hed ⊕ (Int × Int)) ∈ Hs.map Sum.inl := by rw [h]; simp
  rw [List.mem_map] at hm
  obtain ⟨a, -, ha⟩ := hm
  cases ha
theorem tel_pre {H Hs : List Hed} {c p : Int} {h : Hed} (k : Hs.map Sum.inl ++ [Sum.inl h] <+: tel H c p) : Hs ++ [h] <+: H := by
 obtain ⟨t, ht⟩ := k
 have h1 : (Hs ++ [h]).map Sum.inl <+: tel H c p := ⟨t, by rw [List.map_append]; exact ht⟩
 unfold tel at h1
 by_cases c0 : c = 0
 ·rw [if_pos c0, List.append_nil] at h1
  exact inl_pre h1
 ·rw [if_neg c0] at h1
  rcases List.prefix_concat_iff.1 h1 with h2 | h2
  ·exfalso
   have hm : (Sum.inr (c, p) : Hed ⊕ (Int × Int)) ∈ (Hs ++ [h]).map Sum.inl := by rw [h2]; simp
   rw [List.mem_map] at hm
   obtain ⟨a, -, ha⟩ := hm
   cases ha
  ·exact inl_pre h2
theorem tel_fault {H Hs : List Hed} {c p : Int} {cp : Int × Int} (k : Hs.map Sum.inl ++ [Sum.inr cp] <+: tel H c p) : c ≠ 0 ∧ cp = (c, p) := by
 have hm : (Sum.inr cp : Hed ⊕ (Int × Int)) ∈ tel H c p := k.subset (by simp)
 unfold tel at hm
 rcases List.mem_append.1 hm with hm | hm
 ·rw [List.mem_map] at hm
  obtain ⟨a, -, ha⟩ := hm
  cases ha
 ·split at hm
  ·cases hm
  ·rename_i c0
   rw [List.mem_singleton] at hm
   exact ⟨c0, Sum.inr.inj hm⟩
theorem Bods.one0 {B : Nat} {W : World} {a : Option Addr} {g off n cap : Nat} {f : Nat → Int} (tag : Int) (h : BOwn W a g off n f) (hg : 0 < n → B ≤ g) : Bods B W [⟨tag, 0, a, g, off, n, cap, nfF n f⟩] :=
 ⟨fun t ht => by rw [List.mem_singleton] at ht; subst ht; exact h.congr (fun i hi => (getD_map hi).symm), fun t ht h0 => by rw [List.mem_singleton] at ht; subst ht; exact hg h0, fun t ht => by
  rw [List.mem_singleton] at ht
  subst ht
  show nfF n f = fun i => ((List.range n).map (nfF n f)).getD i 0
  rw [nfF_map]
  rfl, List.pairwise_singleton _ _⟩
theorem Bods.push {B : Nat} {W : World} {L : List It} {t : It} (h : Bods B W L) (k : Bods B W [t]) (hn : ∀ s ∈ L, 0 < s.len → 0 < t.len → s.blk ≠ t.blk) : Bods B W (L ++ [t]) := by
 refine ⟨fun s hs => ?_, fun s hs => ?_, fun s hs => ?_, ?_⟩
 ·rcases List.mem_append.1 hs with hs | hs
  ·exact h.own s hs
  ·exact k.own s hs
 ·rcases List.mem_append.1 hs with hs | hs
  ·exact h.up s hs
  ·exact k.up s hs
 ·rcases List.mem_append.1 hs with hs | hs
  ·exact h.nf s hs
  ·exact k.nf s hs
 ·rw [List.pairwise_append]
  exact ⟨h.apart, k.apart, fun s hs u hu h0 h1 => by rw [List.mem_singleton] at hu; subst hu; exact hn s hs h0 h1⟩
theorem lnL_push (A : List Nat) (q : Nat) : lnL (A ++ [q]) = lnL A ++ [(q : Int)] := by simp [lnL]
set_option maxHeartbeats 12800000 in
set_option maxRecDepth 100000 in
theorem readTree_any (ad : Option Addr) (b off bn cap : Nat) (f : Nat → Int) (H : List Hed) (c p : Int) (w : World) (hbn : bn ≤ 4000) (hcap : bn ≤ cap) (hcap2 : cap ≤ 9223372036854775807) (hf : ∀ i, i < bn → 0 ≤ f i ∧ f i < 256)
  (hs : BSeg w ad b off bn f) (hR : Run f 0 [bn] H c p) : Calls Tryz.prog 47 #[.slice ad bn cap] w (GivesRt f bn w H c p) := by
 have h4 : ¬ (4000 : Int) < (bn : Int) := by omega
 refine (callsIn_wide (n := 9)).1 ?_
 refine callsIn_of_wp_marks Tryz.func47 rfl trivial ?_
 simp only [Tryz.ntmps47, List.size_toArray, List.length_cons, List.length_nil, Nat.reduceAdd, Nat.reduceSub, Array.replicate_succ, Array.replicate_zero, List.push_toArray, List.append_toArray, List.nil_append, List.cons_append]
 gi_wp2_with (first | (gi_at_call 76; refine (callsIn_wide.2 (heads_any _ _ _ _)).mono ?_; rintro e w3 ⟨rfl, rfl⟩) | (refine ⟨trivial, ?_⟩; gi_at_call 76; refine (callsIn_wide.2 (heads_any _ _ _ _)).mono ?_; rintro e w3 ⟨rfl, rfl⟩))
 obtain ⟨V1, hV1⟩ : ∃ V, ((w.alloc (.cells #[.slice ad bn cap] 22)).alloc (.cells #[.slice none 0 0] 35)).alloc (.cells #[.nilIface] 73) = V := ⟨_, rfl⟩
 obtain ⟨A0, A1, A2, e1, -⟩ := box3 w [.slice ad bn cap] [.slice none 0 0] [.nilIface] 22 35 73 (w1 := V1) (by rw [← hV1]; exact Ext.refl _)
 have s1 : V1.heap.size = w.heap.size + 3 := by rw [← hV1]; simp
 rw [hV1]
 obtain ⟨V2, hV2⟩ : ∃ V, (V1.alloc (.cells #[] 40)).alloc (.cells #[.slice (some ⟨w.heap.size + 1 + 1 + 1, 0, none⟩) 0 0] 35) = V := ⟨_, rfl⟩
 have hL0 := LAcc.nil V1 (w.heap.size + 3) (by omega)
 obtain ⟨-, A4, e2, -⟩ := box2 V1 [] [.slice (some ⟨w.heap.size + 1 + 1 + 1, 0, none⟩) 0 0] 40 35 (w1 := V2) (by rw [← hV2]; exact Ext.refl _)
 have s2 : V2.heap.size = w.heap.size + 5 := by rw [← hV2]; simp [s1]
 have hL2 := hL0.ext (show Ext _ V2 by rw [← hV2]; exact Ext.alloc _ _)
 rw [hV2]
 obtain ⟨V3, hV3⟩ : ∃ V, (V2.alloc (.cells #[] 3)).alloc (.cells #[.slice (some ⟨w.heap.size + 1 + 1 + 1 + 1 + 1, 0, none⟩) 0 0] 24) = V := ⟨_, rfl⟩
 have hO0 := World.ownsRow_made (base := w.heap.size + 3) (e := 3) (size := 1) V2 #[] 0 (by omega) (by simp) rfl
 obtain ⟨-, A6, e3, -⟩ := box2 V2 [] [.slice (some ⟨w.heap.size + 1 + 1 + 1 + 1 + 1, 0, none⟩) 0 0] 3 24 (w1 := V3) (by rw [← hV3]; exact Ext.refl _)
 have s3 : V3.heap.size = w.heap.size + 7 := by rw [← hV3]; simp [s2]
 have hO2 := iowns_ext0 hO0 (show Ext _ V3 by rw [← hV3]; exact Ext.alloc _ _)
 rw [hV3]
 obtain ⟨V, hV⟩ : ∃ V, (V3.alloc (.cells #[.int .i64 0] 3)).alloc (.cells #[.slice ad bn cap] 22) = V := ⟨_, rfl⟩
 obtain ⟨A7, A8, e4, -⟩ := box2 V3 [.int .i64 0] [.slice ad bn cap] 3 22 (w1 := V) (by rw [← hV]; exact Ext.refl _)
 have s4 : V.heap.size = w.heap.size + 9 := by rw [← hV]; simp [s3]
 rw [hV]
 have e23 : Ext V2 V := e3.trans e4
 have e14 : Ext V1 V := e2.trans e23
 have hEV : Ext w V := e1.trans e14
 rw [s1] at hL2 A4
 rw [s2] at hO2 A6
 rw [s3] at A7 A8
 have I0 : RtI f w (.slice ad bn cap) (fun _ => False) [] V :=
  { it := ⟨_, [], w.heap.size + 5, 0, 0, { c4 := ((A4.ext e23 (by omega)) 0 _ rfl).1, acc := hL2.ext e23, its := rfl, fv := fun g hg => by simp only [Value.ownBlock, Option.some.injEq] at hg; subst hg; exact ⟨fun h => h, .inl rfl⟩, fb := fun t ht => (by cases ht), c6 := ((A6.ext e4 (by omega)) 0 _ rfl).1, nn := rfl, row := iowns_ext0 hO2 e4, fg := ⟨fun h => h, .inr (.inl rfl)⟩, ng := by simp [Value.ownBlock], nb := fun t ht => by cases ht }⟩
    c0 := ((A0.ext e14 (by omega)) 0 _ rfl).1
    c7 := (A7 0 _ rfl).1
    c1 := ⟨_, ((A1.ext e14 (by omega)) 0 _ rfl).1⟩
    c2 := ⟨_, ((A2.ext e14 (by omega)) 0 _ rfl).1⟩
    fz := fun k k1 k3 k5 => by
     have hk : k = 0 ∨ k = 1 ∨ k = 2 ∨ k = 4 ∨ k = 6 ∨ k = 7 ∨ k = 8 := by omega
     rcases hk with rfl | rfl | rfl | rfl | rfl | rfl | rfl
     ·exact ((A0.ext e14 (by omega)) 0 _ rfl).2
     ·exact ((A1.ext e14 (by omega)) 0 _ rfl).2
     ·exact ((A2.ext e14 (by omega)) 0 _ rfl).2
     ·exact ((A4.ext e23 (by omega)) 0 _ rfl).2
     ·exact ((A6.ext e4 (by omega)) 0 _ rfl).2
     ·exact (A7 0 _ rfl).2
     ·exact (A8 0 _ rfl).2
    ours := fun k h => h.elim
    big := by omega
    ext := hEV }
 have c8 := (A8 0 _ rfl).1
 clear A0 A1 A2 A4 A6 A7 A8 hL0 hL2 hO0 hO2 hV1 hV2 hV3 hV e1 e2 e3 e4 e23 e14 s1 s2 s3
 have hseq := heads1_inV 8 (by omega) bn (w.heap.size + 8) b off cap f H c p V hbn hcap hcap2 hf ad c8 (hs.of_all hEV) hR
 obtain ⟨Z8, hZ8⟩ : ∃ k, w.heap.size + 1 + 1 + 1 + 1 + 1 + 1 + 1 + 1 = k := ⟨_, rfl⟩
 rw [show w.heap.size + 8 = Z8 from hZ8] at hseq
 rw [hZ8]
 obtain ⟨Z7, hZ7⟩ : ∃ k, w.heap.size + 1 + 1 + 1 + 1 + 1 + 1 + 1 = k := ⟨_, rfl⟩
 rw [hZ7]
 obtain ⟨Z6, hZ6⟩ : ∃ k, w.heap.size + 1 + 1 + 1 + 1 + 1 + 1 = k := ⟨_, rfl⟩
 rw [hZ6]
 obtain ⟨Z5, hZ5⟩ : ∃ k, w.heap.size + 1 + 1 + 1 + 1 + 1 = k := ⟨_, rfl⟩
 rw [hZ5]
 obtain ⟨Z4, hZ4⟩ : ∃ k, w.heap.size + 1 + 1 + 1 + 1 = k := ⟨_, rfl⟩
 rw [hZ4]
 obtain ⟨Z3, hZ3⟩ : ∃ k, w.heap.size + 1 + 1 + 1 = k := ⟨_, rfl⟩
 rw [hZ3]
 obtain ⟨Z2, hZ2⟩ : ∃ k, w.heap.size + 1 + 1 = k := ⟨_, rfl⟩
 rw [hZ2]
 obtain ⟨Z1, hZ1⟩ : ∃ k, w.heap.size + 1 = k := ⟨_, rfl⟩
 rw [hZ1]
 have HZ : Hid (w.heap.size + 1 = Z1 ∧ w.heap.size + 2 = Z2 ∧ w.heap.size + 4 = Z4 ∧ w.heap.size + 6 = Z6 ∧ w.heap.size + 7 = Z7 ∧ w.heap.size + 8 = Z8) := ⟨hZ1, hZ2, hZ4, hZ6, hZ7, hZ8⟩
 have hltb : 0 < bn → b < w.heap.size := fun h => hs.lt h
 have HX : Hid (∀ k, (k = Z8 ∨ 0 < bn ∧ k = b) → k = w.heap.size + 8 ∨ k < w.heap.size) := fun k hk => by
  rcases hk with rfl | ⟨h, rfl⟩
  ·exact .inl hZ8.symm
  ·exact .inr (hltb h)
 have HVs : Hid (V.heap.size = w.heap.size + 9) := s4
 have HEV := hide hEV
 have HR := hide hR
 have Hf := hide hf
 have Hs := hide hs
 have HI0 := hide I0
 clear hZ1 hZ2 hZ3 hZ4 hZ5 hZ6 hZ7 hZ8 hltb hEV hR hf hs I0 c8 s4
 refine range_ownV (n := 9) (by omega) (gf := 110) (lb := #[.pointer (some ⟨Z8, 0, none⟩)]) rfl (enters_of Tryz.func110 (by kernel_rfl) rfl) (w0 := V) (fun k hk => by have h1 := HX.out k hk; have h2 := HVs.out; omega) hseq (Below.refl _ _) (fun x => by rw [encH_eq]; rfl)
  (fun O (pre : List (Hed ⊕ (Int × Int))) W => ∃ Hs : List Hed, pre = Hs.map Sum.inl ∧ RtI f w (.slice ad bn cap) O Hs W) (fun k O pre W => k = .ret ∧ RtX w c p O W)
  (fun s O O' A C h h3 => by obtain ⟨Hs, h1, h2⟩ := h; exact ⟨Hs, h1, RtI.ab Hs O O' A C h2 h3⟩) (fun k s O O' A C h h3 => by obtain ⟨h1, h2⟩ := h; exact ⟨h1, RtX.ab O O' A C h2 h3⟩) (fun O s A C h h3 => by obtain ⟨Hs, h1, h2⟩ := h; exact ⟨Hs, h1, h2.grow h3⟩) ⟨[], rfl, HI0.out⟩
  (fun x W => W.alloc (.cells (hedV x).toArray 116)) (fun x W => Ext.alloc _ _)
  (fun x W => { tmps := #[.slice ad bn cap, .pointer (some ⟨w.heap.size, 0, none⟩), .pointer (some ⟨Z1, 0, none⟩), .pointer (some ⟨Z2, 0, none⟩), .pointer (some ⟨Z4, 0, none⟩), .pointer (some ⟨Z6, 0, none⟩), .pointer (some ⟨Z7, 0, none⟩), .pointer (some ⟨W.heap.size, 0, none⟩), hedE x, undef, .slice ad bn cap, .int .i64 (bn : Int), .bool false, undef, undef, .slice (some ⟨Z3, 0, none⟩) 0 0, .slice (some ⟨Z5, 0, none⟩) 0 0, .slice ad bn cap, .func (.func 110) #[] #[.pointer (some ⟨Z8, 0, none⟩)], .agg (hedV x).toArray, hedE x, undef, undef, undef, undef, undef, undef, undef, undef, undef, undef, undef, undef, undef, undef, undef, undef, undef, undef, undef, undef, undef, undef, undef, undef, undef, undef, undef, undef, undef, undef, undef, undef, undef, undef, undef, undef, undef, undef, undef, undef, undef, undef, undef, undef, undef, undef, undef, undef, undef, undef, undef, undef, undef, undef, undef, undef, undef, undef, undef, undef, undef], defers := [] }) ?assign ?body ?done ?stop
 case assign =>
  intro l x W K hK
  rw [encH_eq]
  cases x with
  | inl h =>
   simp only [hedV, hdV, hedE] at hK ⊢
   gi_wp2
   exact hK
  | inr cp =>
   simp only [hedV, noH, hedE] at hK ⊢
   gi_wp2
   exact hK
 case body =>
  rintro l O pre x W0 W ⟨Hs', rfl, hI⟩ hVx hOk hW0 hblk hszW hlen
  have z := HZ.out
  have hvs := HVs.out
  have hszW1 : W.heap.size = W0.heap.size + 1 := by rw [hszW]; simp
  have hbig := hI.big
  have hBX : Blk W W0.heap.size (hedV x) := fun j v hj => by
   have h0 := Blk.alloc W0 (hedV x) 116 j v hj
   have hb := hblk W0.heap.size (by omega)
   exact ⟨(World.cell?_of_block (a := ⟨W0.heap.size, j, none⟩) hb).trans h0.1, (World.frozen?_of_block (a := ⟨W0.heap.size, j, none⟩) hb).trans h0.2⟩
  have HBt : Hid (W.heap[W0.heap.size]? = some (.cells (hedV x).toArray 116)) := (hblk W0.heap.size (by omega)).trans (World.alloc_heap_new W0 _)
  have HOk : Hid (∀ k, O k → k < W0.heap.size) := fun k hk => (hOk k hk).2
  obtain ⟨u1, e1⟩ := hI.c1
  obtain ⟨u2, e2⟩ := hI.c2
  have HXn : Hid (∀ k, (k = Z8 ∨ 0 < bn ∧ k = b) → ∀ j, 0 < j → j < 8 → k ≠ w.heap.size + j) := fun k hk j j0 j8 => by have := HX.out k hk; omega
  have HO9 : Hid (∀ k, O k → w.heap.size + 9 ≤ k) := hI.ours
  clear hseq hblk hszW hlen
  cases x with
  | inr cp =>
   obtain ⟨c0, rfl⟩ := tel_fault hVx
   have c1 : W.cell? ⟨Z1, 0, none⟩ = some u1 := by rw [← z.1]; exact e1
   have c2 : W.cell? ⟨Z2, 0, none⟩ = some u2 := by rw [← z.2.1]; exact e2
   have f1 : W.frozen? ⟨Z1, 0, none⟩ = false := by rw [← z.1]; exact hI.fz 1 (by omega) (by omega) (by omega)
   have f2 : W.frozen? ⟨Z2, 0, none⟩ = false := by rw [← z.2.1]; exact hI.fz 2 (by omega) (by omega) (by omega)
   have hne : Z1 ≠ Z2 := by omega
   have hne2 : Z2 ≠ Z1 := by omega
   have hnf := ne_nil_flt
   have HI := hide hI
   have z1 := z.1
   have z2 := z.2.1
   have Z1' := hide z1
   have Z2' := hide z2
   clear z e1 e2 hI z1 z2
   simp only [hedV, noH, hedE, fltV]
   gi_wp2
   refine ⟨⟨rfl, rfl, rfl, by simp [World.setCell], fun k hk hl => ?_⟩, rfl, ?_⟩
   ·have h12 : k ≠ Z1 ∧ k ≠ Z2 := by
     have q1 := Z1'.out
     have q2 := Z2'.out
     rcases hk with hk | hk
     ·have := HO9.out k hk; omega
     ·exact ⟨by have := HXn.out k hk 1 (by omega) (by omega); omega, by have := HXn.out k hk 2 (by omega) (by omega); omega⟩
    exact (Below.heap_setCell _ _ _ _ (show k ≠ Z2 from h12.2)).trans (Below.heap_setCell _ _ _ _ (show k ≠ Z1 from h12.1))
   ·have hEs : Ext w ((W.setCell ⟨Z1, 0, none⟩ (.slice none 0 0)).setCell ⟨Z2, 0, none⟩ (.iface 77 (.agg #[.int .i64 c, .int .i64 p]))) := by
     have q1 := Z1'.out
     have q2 := Z2'.out
     have hE := HI.out.ext
     exact ⟨hE.os, hE.tape, hE.output, by have := hE.size; simp [World.setCell]; exact this, fun k hk => (Below.heap_setCell _ _ _ _ (show k ≠ Z2 by omega)).trans ((Below.heap_setCell _ _ _ _ (show k ≠ Z1 by omega)).trans (hE.block k hk))⟩
    exact { cn := c0
            c1 := by rw [Z1'.out]; exact (World.cell?_of_block (a := ⟨Z1, 0, none⟩) (Below.heap_setCell _ _ _ _ (show Z1 ≠ Z2 from hne))).trans (World.cell?_setCell_same _ _ _ c1)
            c2 := by rw [Z2'.out]; exact World.cell?_setCell_same _ _ _ ((World.cell?_of_block (a := ⟨Z2, 0, none⟩) (Below.heap_setCell _ _ _ _ (show Z2 ≠ Z1 from hne2))).trans c2)
            ours := HO9.out
            big := by simp [World.setCell]; exact hbig
            ext := hEs }
  | inl h =>
   have hpre := tel_pre hVx
   have hok := (run_ok H 0 [bn] c p HR.out (fun e he => by rw [List.mem_singleton.1 he]; exact Nat.le_refl _) (Nat.zero_le _)).2 h (hpre.subset (by simp))
   have hHl := (run_ok H 0 [bn] c p HR.out (fun e he => by rw [List.mem_singleton.1 he]; exact Nat.le_refl _) (Nat.zero_le _)).1
   have har := run_line (f := f) H 0 [bn] c p ([], []) HR.out (by simp) Hs' h hpre
   have hlen2 : Hs'.length ≤ 2000 := by have := hpre.length_le; simp at this; omega
   obtain ⟨a0, ha0, htg⟩ := hok.tg
   have hft := Hf.out a0 ha0
   rw [← htg] at hft
   obtain rfl := Hs.out.at' (show 0 < bn by omega)
   have hst := hok.se
   have hen := hok.en
   have har12 := hok.ar
   clear hok hHl hpre hVx ha0 htg a0
   obtain ⟨v, L, g, n, vc, ha⟩ := hI.it
   obtain ⟨va, vcap, rfl⟩ := ownsRow_slc ha.acc.row
   obtain ⟨tg, st, en, ar⟩ := h
   simp only at hst hen har har12 hft hBX ⊢
   have x0 := (hBX 0 _ rfl).1
   have HBX := hide hBX
   have HMd : Hid (∀ W, Calls Tryz.prog 77 #[.int .i64 tg] W fun e w' => e = .returned (.bool (mdT tg)) ∧ w' = W) := fun W => isMade_any tg W hft.1 (by omega)
   have HI := hide hI
   have HA := hide ha
   have Z' := hide z
   clear hI ha z hBX e1 e2
   simp only [hedV, hdV, hedE]
   gi_wp2_with fail
   rename_i K2 hK2 K1 hK1 K0 hK0
   have LEAF1 : ∀ (W2 : World) (ya : Option Addr) (yg ln yc : Nat) (ff : Nat → Int) (u29 u30 u31 u32 u33 u34 u35 u36 u37 u38 : Value), Ext W W2 → Blk W2 (W0.heap.size + 1) [.int .i64 tg, .slice ya ln yc, .int .i64 0] → BOwn W2 ya yg 0 ln ff → (0 < ln → W.heap.size < yg ∧ ln ≤ yc ∧ yc ≤ 9223372036854775807) → itH f ⟨tg, st, en, ar⟩ = ⟨tg, 0, (List.range ln).map ff⟩ → ln ≤ 4000 →
     K2 { tmps := #[.slice (some ⟨b, off, none⟩) bn cap, .pointer (some ⟨w.heap.size, 0, none⟩), .pointer (some ⟨Z1, 0, none⟩), .pointer (some ⟨Z2, 0, none⟩), .pointer (some ⟨Z4, 0, none⟩), .pointer (some ⟨Z6, 0, none⟩), .pointer (some ⟨Z7, 0, none⟩), .pointer (some ⟨W0.heap.size, 0, none⟩), .nilIface, .pointer (some ⟨W0.heap.size + 1, 0, none⟩), .slice (some ⟨b, off, none⟩) bn cap, .int .i64 (bn : Int), .bool false, undef, undef, .slice (some ⟨Z3, 0, none⟩) 0 0, .slice (some ⟨Z5, 0, none⟩) 0 0, .slice (some ⟨b, off, none⟩) bn cap, .func (.func 110) #[] #[.pointer (some ⟨Z8, 0, none⟩)], .agg #[.int .i64 tg, .int .i64 (st : Int), .int .i64 (en : Int), .int .i64 (ar : Int)], .nilIface, .nilIface, .bool false, undef, .pointer (some ⟨W0.heap.size, 0, none⟩), .int .i64 tg, .agg #[.int .i64 tg, .slice none 0 0, .int .i64 0], .pointer (some ⟨W0.heap.size, 0, none⟩), .int .i64 tg, u29, u30, u31, u32, u33, u34, u35, u36, u37, u38, undef, undef, undef, undef, undef, undef, undef, undef, undef, undef, undef, undef, undef, undef, undef, undef, undef, undef, undef, undef, undef, undef, undef, undef, undef, undef, undef, undef, undef, undef, undef, undef, undef, undef, undef, undef, undef, undef, undef, undef, undef, undef, undef], defers := [] } W2 := by
    intro W2 ya yg ln yc ff u29 u30 u31 u32 u33 u34 u35 u36 u37 u38 hE2 hB2 hBy hyg hit hln
    refine hK2 _ _ ?_
    have hW0l : W0.heap.size < W.heap.size := by omega
    have y3 := (Below.cell hE2 (p := ⟨W0.heap.size, 3, none⟩) hW0l).trans (HBX.out 3 (.int .i64 (ar : Int)) rfl).1
    have y2 := (Below.cell hE2 (p := ⟨W0.heap.size, 2, none⟩) hW0l).trans (HBX.out 2 (.int .i64 (en : Int)) rfl).1
    have HE2 := hide hE2
    have HB2 := hide hB2
    have HBy := hide hBy
    have Hyg := hide hyg
    have Hit := hide hit
    clear hE2 hB2 hBy hyg hit
    refine wpIn_seq_k (fun K3 hK3 => ?_)
    have LEAF2 : ∀ (W3 : World) (L' : List It) (u41 u42 u43 u44 u45 u46 u47 u48 u49 u50 u51 u52 u53 u54 u55 u56 : Value), W2.heap.size ≤ W3.heap.size → (W3.os = W2.os ∧ W3.tape = W2.tape ∧ W3.output = W2.output) → (∀ k, k < W2.heap.size → k ≠ Z7 → (Value.slice va L.length vcap).ownBlock ≠ some k → W3.heap[k]? = W2.heap[k]?) →
      W3.cell? ⟨Z7, 0, none⟩ = some (.int .i64 ((topF (Hs'.foldl topF 0) ⟨tg, st, en, ar⟩ : Nat) : Int)) → W3.frozen? ⟨Z7, 0, none⟩ = false → LAcc (w.heap.size + 3) W3 (.slice va L.length vcap) L' → L'.map ct = bmpL (Hs'.foldl (addH f) ([], [])).1 (Hs'.foldl (addH f) ([], [])).2 ar → (∀ t ∈ L', 0 < t.len → Fr w.heap.size O t.blk ∧ (t.blk ≠ g ∧ Cp t) ∧ t.blk < W.heap.size) →
      K3 { tmps := #[.slice (some ⟨b, off, none⟩) bn cap, .pointer (some ⟨w.heap.size, 0, none⟩), .pointer (some ⟨Z1, 0, none⟩), .pointer (some ⟨Z2, 0, none⟩), .pointer (some ⟨Z4, 0, none⟩), .pointer (some ⟨Z6, 0, none⟩), .pointer (some ⟨Z7, 0, none⟩), .pointer (some ⟨W0.heap.size, 0, none⟩), .nilIface, .pointer (some ⟨W0.heap.size + 1, 0, none⟩), .slice (some ⟨b, off, none⟩) bn cap, .int .i64 (bn : Int), .bool false, undef, undef, .slice (some ⟨Z3, 0, none⟩) 0 0, .slice (some ⟨Z5, 0, none⟩) 0 0, .slice (some ⟨b, off, none⟩) bn cap, .func (.func 110) #[] #[.pointer (some ⟨Z8, 0, none⟩)], .agg #[.int .i64 tg, .int .i64 (st : Int), .int .i64 (en : Int), .int .i64 (ar : Int)], .nilIface, .nilIface, .bool false, undef, .pointer (some ⟨W0.heap.size, 0, none⟩), .int .i64 tg, .agg #[.int .i64 tg, .slice none 0 0, .int .i64 0], .pointer (some ⟨W0.heap.size, 0, none⟩), .int .i64 tg, u29, u30, u31, u32, u33, u34, u35, u36, u37, u38, .pointer (some ⟨W0.heap.size, 3, none⟩), .int .i64 (ar : Int), u41, u42, u43, u44, u45, u46, u47, u48, u49, u50, u51, u52, u53, u54, u55, u56, undef, undef, undef, undef, undef, undef, undef, undef, undef, undef, undef, undef, undef, undef, undef, undef, undef, undef, undef, undef, undef, undef, undef, undef, undef], defers := [] } W3 := by
     intro W3 L' u41 u42 u43 u44 u45 u46 u47 u48 u49 u50 u51 u52 u53 u54 u55 u56 hsz hos hblk c7 f7 hacc hits hfb
     refine hK3 _ _ ?_
     have hW2 : W.heap.size ≤ W2.heap.size := Below.size HE2.out
     have z' := Z'.out
     obtain ⟨S2, hS2⟩ : ∃ S2, (Hs'.foldl (addH f) ([], [])).2 = S2 := ⟨_, rfl⟩
     obtain ⟨LN, hLN⟩ : ∃ LN, L.length = LN := ⟨_, rfl⟩
     have hfg := HA.out.fg
     have hfv := HA.out.fv
     have hngv := HA.out.ng
     have hvW : ∀ k, (Value.slice va L.length vcap).ownBlock = some k → k < W.heap.size := fun k hk => (HA.out.acc.row.lt k hk).2
     have hv0 : (Value.slice va L.length vcap).ownBlock ≠ some W0.heap.size := fun e => by
      rcases HA.out.acc.row.2 with ⟨h0, -⟩ | ⟨g2, cap2, cur, hv, -, hg2, -⟩
      ·rw [h0] at e; simp [Value.ownBlock] at e
      ·rw [hv] at e
       simp only [Value.ownBlock, Option.some.injEq] at e
       subst e
       have h1 := HBt.out.symm.trans hg2
       simp at h1
     have hg0 : g ≠ W0.heap.size := fun e => by
      rcases HA.out.row.2 with ⟨h0, -⟩ | ⟨g2, cap2, cur, hv, -, hg2, -⟩
      ·simp at h0
      ·simp only [Value.slice.injEq, Option.some.injEq, Addr.mk.injEq] at hv
       obtain ⟨⟨rfl, -, -⟩, -, rfl⟩ := hv
       rw [e] at hg2
       have h1 := HBt.out.symm.trans hg2
       simp at h1
     have b3 : ∀ k, k < W.heap.size → k ≠ Z7 → (Value.slice va L.length vcap).ownBlock ≠ some k → W3.heap[k]? = W.heap[k]? := fun k h1 h2 h3 => (hblk k (by omega) h2 h3).trans (Below.block HE2.out k h1)
     have nv : ∀ k, k < w.heap.size + 9 → k ≠ w.heap.size + 3 → k ≠ w.heap.size + 5 → (Value.slice va L.length vcap).ownBlock ≠ some k := fun k h1 h3 h5 e => by have := (hfv k e).2; omega
     have bz : ∀ k, k < w.heap.size + 9 → k ≠ w.heap.size + 3 → k ≠ w.heap.size + 5 → k ≠ Z7 → W3.heap[k]? = W.heap[k]? := fun k h1 h3 h5 h7 => b3 k (by omega) h7 (nv k h1 h3 h5)
     have c4 : W3.cell? ⟨Z4, 0, none⟩ = some (.slice va LN vcap) := by rw [← hLN]; exact (World.cell?_of_block (a := ⟨Z4, 0, none⟩) (bz Z4 (by omega) (by omega) (by omega) (by omega))).trans (by rw [← z'.2.2.1]; exact HA.out.c4)
     have f4 : W3.frozen? ⟨Z4, 0, none⟩ = false := (World.frozen?_of_block (a := ⟨Z4, 0, none⟩) (bz Z4 (by omega) (by omega) (by omega) (by omega))).trans (by rw [← z'.2.2.1]; exact HI.out.fz 4 (by omega) (by omega) (by omega))
     have c6 : W3.cell? ⟨Z6, 0, none⟩ = some (.slice (some ⟨g, 0, none⟩) n vc) := (World.cell?_of_block (a := ⟨Z6, 0, none⟩) (bz Z6 (by omega) (by omega) (by omega) (by omega))).trans (by rw [← z'.2.2.2.1]; exact HA.out.c6)
     have f6 : W3.frozen? ⟨Z6, 0, none⟩ = false := (World.frozen?_of_block (a := ⟨Z6, 0, none⟩) (bz Z6 (by omega) (by omega) (by omega) (by omega))).trans (by rw [← z'.2.2.2.1]; exact HI.out.fz 6 (by omega) (by omega) (by omega))
     have hgw : g < W.heap.size := (HA.out.row.lt g rfl).2
     have hg7 : g ≠ Z7 := by have := hfg.2; omega
     have hg6 : g ≠ Z6 := by have := hfg.2; omega
     have hg4' : g ≠ Z4 := by have := hfg.2; omega
     have hrow := HA.out.row
     have hnn := HA.out.nn
     rw [hS2] at hrow hnn
     have hrow3 : W3.ownsRow (w.heap.size + 3) 3 1 (.slice (some ⟨g, 0, none⟩) n vc) n (iys (lnL S2)) := ownsRow_of_blk hrow (fun q hq => by simp only [Value.ownBlock, Option.some.injEq] at hq; subst hq; exact b3 _ hgw hg7 hngv)
     have y3' : W3.cell? ⟨W0.heap.size, 3, none⟩ = some (.int .i64 (ar : Int)) := (World.cell?_of_block (a := ⟨W0.heap.size, 3, none⟩) (hblk W0.heap.size (by omega) (by omega) hv0)).trans y3
     have hIB : W3.heap[W0.heap.size + 1]? = W2.heap[W0.heap.size + 1]? := hblk _ (HB2.out.lt (by simp)) (by omega) (fun e => by have := hvW _ e; omega)
     have hBI : Blk W3 (W0.heap.size + 1) [.int .i64 tg, .slice ya ln yc, .int .i64 0] := fun j u hj => ⟨(World.cell?_of_block (a := ⟨W0.heap.size + 1, j, none⟩) hIB).trans (HB2.out j u hj).1, (World.frozen?_of_block (a := ⟨W0.heap.size + 1, j, none⟩) hIB).trans (HB2.out j u hj).2⟩
     have hyl : 0 < ln → yg < W2.heap.size := fun h => HBy.out.toBSeg.lt h
     have hBy3 : BOwn W3 ya yg 0 ln ff := HBy.out.of_blk (fun h => hblk yg (hyl h) (by have := Hyg.out h; omega) (fun e => by have h1 := hvW _ e; have h2 := Hyg.out h; omega))
     have har' : ar ≤ n := by rw [← hnn, ← hS2]; exact har
     have hnl : (lnL S2).length = n := by rw [lnL_len, hnn]
     obtain ⟨TK, hTK⟩ : ∃ TK, (lnL S2).take ar = TK := ⟨_, rfl⟩
     have hlA : TK.length = ar := by rw [← hTK, List.length_take]; omega
     have hvcn : n ≤ vc := by rw [← hnl] at hrow3; have := (owns_cells hrow3).2.2.1; omega
     have hvc2 : vc ≤ 9223372036854775807 := by rw [← hnl] at hrow3; exact (owns_cells hrow3).2.2.2.1
     have hOA : W3.ownsRow (w.heap.size + 3) 3 1 (.slice (some ⟨g, 0, none⟩) TK.length vc) TK.length (iys TK) := by
      rw [← hnl] at hrow3
      have h1 := owns_take ar (by omega) hrow3
      rw [hTK] at h1
      exact h1
     have hlnS : LN = (Hs'.foldl (addH f) ([], [])).1.length := by rw [← hLN, ← HA.out.its, List.length_map]
     have hln4 : LN ≤ 4000 := by
      have h1 := addH_len (f := f) Hs' ([], [])
      rw [← hlnS] at h1
      simp at h1
      omega
     have hL'n : L'.length = LN := by rw [hlnS, ← bmpL_len _ (Hs'.foldl (addH f) ([], [])).2 ar, ← hits, List.length_map]
     have hz6l : Z6 < W3.heap.size := World.block_lt_of_cell? _ _ c6
     have Hz3 : Hid (w.heap.size + 9 ≤ W3.heap.size) := hide (by omega)
     have HOA := hide hOA
     have HlA := hide hlA
     have Hc6 := hide c6
     have Hf6 := hide f6
     have Hits := hide hits
     have Hfb := hide hfb
     have Hacc := hide hacc
     have Hhb := hide hblk
     have HBI := hide hBI
     have HBy3 := hide hBy3
     have Hos := hide hos
     have Hb3 := hide b3
     have Hhfv := hide hfv
     have Hngv := hide hngv
     have HvW := hide hvW
     have HTK := hide hTK
     have HS2 := hide hS2
     have Hc7 := hide c7
     have Hf7 := hide f7
     have HL'n := hide hL'n
     have HlnS := hide hlnS
     have HLN := hide hLN
     have Hhyl := hide hyl
     have Hc4 := hide c4
     have Hf4 := hide f4
     clear hOA hlA f6 hits hfb hacc hblk hBI hBy3 hos b3 hfv hngv hvW hTK hS2 c7 f7 hL'n hlnS hLN hyl f4 bz nv hrow hrow3 hv0 hIB y3 hnl hnn
     refine wpIn_seq_k (fun K4 hK4 => ?_)
     have LEAF3 : ∀ (w10 : World) (g' NL vc' : Nat) (u57 u58 u59 u60 u61 u62 u63 u64 : Value), W3.heap.size ≤ w10.heap.size → (w10.os = W3.os ∧ w10.tape = W3.tape ∧ w10.output = W3.output) → (∀ k, k < W3.heap.size → k ≠ Z6 → k ≠ g → w10.heap[k]? = W3.heap[k]?) →
       w10.cell? ⟨Z6, 0, none⟩ = some (.slice (some ⟨g', 0, none⟩) NL vc') → w10.frozen? ⟨Z6, 0, none⟩ = false → NL = ar + 1 → w10.ownsRow (w.heap.size + 3) 3 1 (.slice (some ⟨g', 0, none⟩) NL vc') NL (iys (TK ++ [(LN : Int)])) → (g' = g ∨ W3.heap.size ≤ g') →
       K4 { tmps := #[.slice (some ⟨b, off, none⟩) bn cap, .pointer (some ⟨w.heap.size, 0, none⟩), .pointer (some ⟨Z1, 0, none⟩), .pointer (some ⟨Z2, 0, none⟩), .pointer (some ⟨Z4, 0, none⟩), .pointer (some ⟨Z6, 0, none⟩), .pointer (some ⟨Z7, 0, none⟩), .pointer (some ⟨W0.heap.size, 0, none⟩), .nilIface, .pointer (some ⟨W0.heap.size + 1, 0, none⟩), .slice (some ⟨b, off, none⟩) bn cap, .int .i64 (bn : Int), .bool false, undef, undef, .slice (some ⟨Z3, 0, none⟩) 0 0, .slice (some ⟨Z5, 0, none⟩) 0 0, .slice (some ⟨b, off, none⟩) bn cap, .func (.func 110) #[] #[.pointer (some ⟨Z8, 0, none⟩)], .agg #[.int .i64 tg, .int .i64 (st : Int), .int .i64 (en : Int), .int .i64 (ar : Int)], .nilIface, .nilIface, .bool false, undef, .pointer (some ⟨W0.heap.size, 0, none⟩), .int .i64 tg, .agg #[.int .i64 tg, .slice none 0 0, .int .i64 0], .pointer (some ⟨W0.heap.size, 0, none⟩), .int .i64 tg, u29, u30, u31, u32, u33, u34, u35, u36, u37, u38, .pointer (some ⟨W0.heap.size, 3, none⟩), .int .i64 (ar : Int), u41, u42, u43, u44, u45, u46, u47, u48, u49, u50, u51, u52, u53, u54, u55, u56, u57, u58, u59, u60, u61, u62, u63, u64, undef, undef, undef, undef, undef, undef, undef, undef, undef, undef, undef, undef, undef, undef, undef, undef, undef], defers := [] } w10 := by
      intro w10 g' NL vc' u57 u58 u59 u60 u61 u62 u63 u64 hs10 hm10 hbb c6' f6' hNLn hr10 hat
      refine hK4 _ _ ?_
      have z' := Z'.out
      have hz4l : Z4 < W3.heap.size := World.block_lt_of_cell? _ _ c4
      have b4 := hbb Z4 hz4l (by omega) hg4'.symm
      have c4' : w10.cell? ⟨Z4, 0, none⟩ = some (.slice va LN vcap) := (World.cell?_of_block (a := ⟨Z4, 0, none⟩) b4).trans c4
      have f4' : w10.frozen? ⟨Z4, 0, none⟩ = false := (World.frozen?_of_block (a := ⟨Z4, 0, none⟩) b4).trans Hf4.out
      have hIB : w10.heap[W0.heap.size + 1]? = W3.heap[W0.heap.size + 1]? := hbb _ (HBI.out.lt (by simp)) (by omega) (by omega)
      have i0 : w10.cell? ⟨W0.heap.size + 1, 0, none⟩ = some (.int .i64 tg) := (World.cell?_of_block (a := ⟨W0.heap.size + 1, 0, none⟩) hIB).trans (HBI.out 0 _ rfl).1
      have i1 : w10.cell? ⟨W0.heap.size + 1, 1, none⟩ = some (.slice ya ln yc) := (World.cell?_of_block (a := ⟨W0.heap.size + 1, 1, none⟩) hIB).trans (HBI.out 1 _ rfl).1
      have i2 : w10.cell? ⟨W0.heap.size + 1, 2, none⟩ = some (.int .i64 0) := (World.cell?_of_block (a := ⟨W0.heap.size + 1, 2, none⟩) hIB).trans (HBI.out 2 _ rfl).1
      have hacc10 : LAcc (w.heap.size + 3) w10 (.slice va LN vcap) L' := by
       have h1 := Hacc.out
       rw [HLN.out] at h1
       have hv' : (Value.slice va L.length vcap).ownBlock = (Value.slice va LN vcap).ownBlock := by cases va <;> rfl
       exact h1.of_blk (fun q hq => hbb q (h1.row.lt q hq).2 (fun e => by have := (Hhfv.out q (hv'.trans hq)).2; omega) (fun e => Hngv.out (by rw [hv', hq, e]))) (fun t ht h0 => hbb _ (h1.bods.lt ht h0) (fun e => by have := (Hfb.out t ht h0).1.2; omega) (Hfb.out t ht h0).2.1.1)
      have hBy10 : BOwn w10 ya yg 0 ln ff := HBy3.out.of_blk (fun h => hbb yg (HBy3.out.toBSeg.lt h) (by have := Hyg.out h; omega) (by have := Hyg.out h; omega))
      have Hacc10 := hide hacc10
      have HBy10 := hide hBy10
      have Hbb := hide hbb
      have Hr10 := hide hr10
      have Hat := hide hat
      have Hm10 := hide hm10
      have HNLn := hide hNLn
      have Hc6' := hide c6'
      have Hf6' := hide f6'
      clear hacc10 hBy10 hbb hr10 hat hm10 hNLn c6' f6' hIB b4
      gi_wp2_with (gi_at_builtin; refine Hid.out ?_)
      refine hide ?_
      obtain ⟨itm, hitm⟩ : ∃ t : It, (⟨tg, 0, ya, yg, 0, ln, yc, nfF ln ff⟩ : It) = t := ⟨_, rfl⟩
      have hone : Bods (w.heap.size + 3) w10 [itm] := by rw [← hitm]; exact Bods.one0 tg HBy10.out (fun h => by have := Hyg.out h; omega)
      have hib : itm.blk = yg ∧ itm.len = ln := by rw [← hitm]; exact ⟨rfl, rfl⟩
      have hbods := Hacc10.out.bods.push hone (fun s hs h0 h1 => by have q1 := (Hfb.out s hs h0).2.2; have q2 := Hyg.out (by omega); omega)
      have hvW' : ∀ k, (Value.slice va LN vcap).ownBlock = some k → k < W.heap.size ∧ Fr w.heap.size O k ∧ k ≠ g := fun k hk => by
       have hv' : (Value.slice va L.length vcap).ownBlock = (Value.slice va LN vcap).ownBlock := by cases va <;> rfl
       exact ⟨HvW.out k (hv'.trans hk), Hhfv.out k (hv'.trans hk), fun e => Hngv.out (by rw [hv', hk, e])⟩
      have hM := LAcc.it w10 itm (w.heap.size + 3) hone (by have := Hz3.out; omega)
      have hLn := HL'n.out
      have e1 : itm.tag = tg ∧ itm.ad = ya ∧ itm.len = ln ∧ itm.cap = yc ∧ itm.kid = 0 := by rw [← hitm]; exact ⟨rfl, rfl, rfl, rfl, rfl⟩
      rw [e1.1, e1.2.1, e1.2.2.1, e1.2.2.2.1, e1.2.2.2.2] at hM
      refine wpListIn_plain rfl fun K hK => wpIn_of_wp (by intro c hc; cases hc) l hK ?_
      refine wp_appG _ _ rfl (w.heap.size + 3) (w.heap.size + 3) w10 (.slice va LN vcap) (.slice (some ⟨w10.heap.size, 0, none⟩) 1 1) L' [itm] rfl Hacc10.out (Ext.alloc _ _) rfl hM.row (hbods.ext (Ext.alloc _ _)) (fun t ht h0 e => by rw [List.mem_singleton] at ht; subst ht; have q1 := (hvW' _ e).1; have q2 := Hyg.out (by omega); omega) (by simp; omega) (by have := Hz3.out; omega) ?_
      intro v' w11 hA11 hg11 hat11
      clear hK K
      obtain ⟨va', vc2, rfl⟩ := ownsRow_slc hA11.row
      obtain ⟨LM, hLM⟩ : ∃ LM, (L' ++ [itm]).length = LM := ⟨_, rfl⟩
      have hA11' := hA11
      rw [hLM] at hat11 hA11' ⊢
      have hs11 : w10.heap.size + 1 ≤ w11.heap.size := by have := hg11.size; simpa using this
      have b11 : ∀ k, k < w10.heap.size → (Value.slice va LN vcap).ownBlock ≠ some k → w11.heap[k]? = w10.heap[k]? := fun k h1 h2 => (hg11.block k (by simp; omega) (fun e => h2 e.symm)).trans (Below.heap_alloc _ _ _ h1)
      have n4 : (Value.slice va LN vcap).ownBlock ≠ some Z4 := fun e => by have := (hvW' _ e).2.1.2; omega
      have c11 : w11.cell? ⟨Z4, 0, none⟩ = some (.slice va LN vcap) := (World.cell?_of_block (a := ⟨Z4, 0, none⟩) (b11 Z4 (by omega) n4)).trans c4'
      have f11 : w11.frozen? ⟨Z4, 0, none⟩ = false := (World.frozen?_of_block (a := ⟨Z4, 0, none⟩) (b11 Z4 (by omega) n4)).trans f4'
      have bT : ∀ k, k < w10.heap.size → k ≠ Z4 → (Value.slice va LN vcap).ownBlock ≠ some k → (w11.setCell ⟨Z4, 0, none⟩ (.slice va' LM vc2)).heap[k]? = w10.heap[k]? := fun k h1 h2 h3 => (Below.heap_setCell _ _ _ _ (show k ≠ Z4 from h2)).trans (b11 k h1 h3)
      have HA11 := hide hA11'
      have Hat11 := hide hat11
      have HbT := hide bT
      have HvW' := hide hvW'
      have Hitm := hide hitm
      have Hib := hide hib
      have Hg11 : Hid (w11.os = w10.os ∧ w11.tape = w10.tape ∧ w11.output = w10.output) := ⟨hg11.os, hg11.tape, hg11.output⟩
      have HLM := hide hLM
      have Hc11 := hide c11
      have Hf11 := hide f11
      clear hA11 hA11' hg11 hat11 bT b11 hvW' hitm hib hM hbods hone e1 c4' f4' i0 i1 i2 hLM
      gi_wp2
      have z := Z'.out
      have hbig' := HI.out.big
      have hW2 : W.heap.size ≤ W2.heap.size := Below.size HE2.out
      have hz3 := Hz3.out
      suffices hfin : RdO (fun k => k = Z8 ∨ 0 < bn ∧ k = b) O W (w11.setCell ⟨Z4, 0, none⟩ (.slice va' LM vc2)) ∧ RtI f w (.slice (some ⟨b, off, none⟩) bn cap) O (Hs' ++ [⟨tg, st, en, ar⟩]) (w11.setCell ⟨Z4, 0, none⟩ (.slice va' LM vc2)) from ⟨hfin.1, Hs' ++ [⟨tg, st, en, ar⟩], by rw [List.map_append]; rfl, hfin.2⟩
      have hfold1 : ((Hs' ++ [(⟨tg, st, en, ar⟩ : Hed)]).foldl (addH f) ([], [])) = addH f (Hs'.foldl (addH f) ([], [])) ⟨tg, st, en, ar⟩ := by rw [List.foldl_append]; rfl
      have hk : ∀ k, k < W.heap.size → ¬ (k = Z4 ∨ k = Z6 ∨ k = Z7 ∨ (Value.slice va LN vcap).ownBlock = some k ∨ k = g) → (w11.setCell ⟨Z4, 0, none⟩ (.slice va' LM vc2)).heap[k]? = W.heap[k]? := fun k h1 hT => by
       have hv' : (Value.slice va L.length vcap).ownBlock = (Value.slice va LN vcap).ownBlock := by cases va <;> rfl
       rw [HbT.out k (by omega) (fun e => hT (.inl e)) (fun e => hT (.inr (.inr (.inr (.inl e))))), Hbb.out k (by omega) (fun e => hT (.inr (.inl e))) (fun e => hT (.inr (.inr (.inr (.inr e)))))]
       exact Hb3.out k h1 (fun e => hT (.inr (.inr (.inl e)))) (fun e => hT (.inr (.inr (.inr (.inl (hv'.symm.trans e))))))
      have nv : ∀ k, k < w.heap.size + 9 → k ≠ w.heap.size + 3 → k ≠ w.heap.size + 5 → (Value.slice va LN vcap).ownBlock ≠ some k := fun k h1 h3 h5 e => by have := (HvW'.out k e).2.1.2; omega
      have hown' : ∀ q, (Value.slice va' LM vc2).ownBlock = some q → (Value.slice va LN vcap).ownBlock = some q ∨ q = w10.heap.size + 1 := fun q hq => by
       rcases Hat11.out with h | h
       ·exact .inl (h.symm.trans hq)
       ·rw [hq] at h
        simp at h
        exact .inr h
      have hfr : ∀ q, W.heap.size ≤ q → Fr w.heap.size O q := fun q hq => ⟨fun h => by have := HOk.out q h; omega, .inr (.inr (by omega))⟩
      have hg'l : g' < w10.heap.size := (Hr10.out.lt g' rfl).2
      have hg'f : Fr w.heap.size O g' := by
       rcases Hat.out with h | h
       ·rw [h]; exact hfg
       ·exact hfr g' (by omega)
      have hg'4 : g' ≠ Z4 := by have := hg'f.2; omega
      have hg'v : (Value.slice va LN vcap).ownBlock ≠ some g' := fun e => by
       rcases Hat.out with h | h
       ·exact (HvW'.out _ e).2.2 h
       ·have := (HvW'.out _ e).1; omega
      have hnX : ∀ k, w.heap.size + 3 ≤ k → k ≠ w.heap.size + 8 → ¬ (k = Z8 ∨ 0 < bn ∧ k = b) := fun k h1 h2 hk => by have := HX.out k hk; omega
      have hnO : ∀ k, k < w.heap.size + 9 → ¬ O k := fun k h1 h2 => by have := HO9.out k h2; omega
      have nb' : ∀ t ∈ L' ++ [itm], 0 < t.len → Fr w.heap.size O t.blk ∧ t.blk ≠ g' ∧ Cp t := fun t ht h0 => by
       rcases List.mem_append.1 ht with ht | ht
       ·have q := Hfb.out t ht h0
        refine ⟨q.1, fun e => ?_, q.2.1.2⟩
        rcases Hat.out with h | h
        ·exact q.2.1.1 (e.trans h)
        ·omega
       ·rw [List.mem_singleton] at ht
        subst ht
        have hl : 0 < ln := by have := Hib.out.2; omega
        have q := Hyg.out hl
        have hcp : Cp t := by rw [← Hitm.out]; exact ⟨q.2.1, q.2.2⟩
        rw [Hib.out.1]
        refine ⟨hfr yg (by omega), fun e => ?_, hcp⟩
        rcases Hat.out with h | h
        ·omega
        ·have := HBy3.out.toBSeg.lt hl; omega
      have fz' : ∀ k, k < W3.heap.size → k ≠ Z4 → k ≠ Z6 → k ≠ g → (Value.slice va LN vcap).ownBlock ≠ some k → (w11.setCell ⟨Z4, 0, none⟩ (.slice va' LM vc2)).heap[k]? = W3.heap[k]? := fun k h1 h2 h3 h4 h5 => (HbT.out k (by omega) h2 h5).trans (Hbb.out k h1 h3 h4)
      refine RtI.next HI.out (fun k => k = Z4 ∨ k = Z6 ∨ k = Z7 ∨ (Value.slice va LN vcap).ownBlock = some k ∨ k = g) ?_ ?_ ?_ ?_ ?_ hk ?_ ?_ ?_
      ·rintro k (h | h | h | h | h)
       ·exact ⟨hnO k (by omega), hnX k (by omega) (by omega), by omega⟩
       ·exact ⟨hnO k (by omega), hnX k (by omega) (by omega), by omega⟩
       ·exact ⟨hnO k (by omega), hnX k (by omega) (by omega), by omega⟩
       ·have q := (HvW'.out k h).2.1
        exact ⟨q.1, hnX k (by have := q.2; omega) (by have := q.2; omega), by have := q.2; omega⟩
       ·subst h
        exact ⟨hfg.1, hnX k (by have := hfg.2; omega) (by have := hfg.2; omega), by have := hfg.2; omega⟩
      ·exact Hg11.out.1.trans (Hm10.out.1.trans (Hos.out.1.trans HE2.out.os))
      ·exact Hg11.out.2.1.trans (Hm10.out.2.1.trans (Hos.out.2.1.trans HE2.out.tape))
      ·exact Hg11.out.2.2.trans (Hm10.out.2.2.trans (Hos.out.2.2.trans HE2.out.output))
      ·simp [World.setCell]
       omega
      ·refine ⟨.slice va' LM vc2, L' ++ [itm], g', NL, vc', { c4 := ?_, acc := ?_, its := ?_, fv := ?_, fb := fun t ht h0 => (nb' t ht h0).1, c6 := ?_, nn := ?_, row := ?_, fg := hg'f, ng := ?_, nb := fun t ht h0 => (nb' t ht h0).2 }⟩
       ·rw [z.2.2.1]; exact World.cell?_setCell_same _ _ _ Hc11.out
       ·refine HA11.out.of_blk (fun q hq => Below.heap_setCell _ _ _ _ (show q ≠ Z4 from ?_)) (fun t ht h0 => Below.heap_setCell _ _ _ _ (show t.blk ≠ Z4 by have := (nb' t ht h0).1.2; omega))
        rcases hown' q hq with h | h
        ·have := (HvW'.out q h).2.1.2; omega
        ·omega
       ·rw [hfold1, List.map_append, Hits.out]
        show _ ++ [ct itm] = _ ++ [itH f ⟨tg, st, en, ar⟩]
        rw [Hit.out, ← Hitm.out, ct_one]
       ·intro q hq
        rcases hown' q hq with h | h
        ·exact (HvW'.out q h).2.1
        ·exact hfr q (by omega)
       ·rw [z.2.2.2.1]
        exact (World.cell?_of_block (a := ⟨Z6, 0, none⟩) (HbT.out Z6 (by omega) (by omega) (nv Z6 (by omega) (by omega) (by omega)))).trans Hc6'.out
       ·rw [hfold1]
        show ((Hs'.foldl (addH f) ([], [])).2.take ar ++ [(Hs'.foldl (addH f) ([], [])).1.length]).length = NL
        rw [List.length_append, List.length_take, HNLn.out]
        have := har
        simp
        omega
       ·rw [hfold1]
        show World.ownsRow _ _ _ _ _ _ (iys (lnL ((Hs'.foldl (addH f) ([], [])).2.take ar ++ [(Hs'.foldl (addH f) ([], [])).1.length])))
        rw [lnL_push, HS2.out, ← HlnS.out, show lnL (S2.take ar) = TK by rw [← HTK.out]; unfold lnL; rw [List.map_take]]
        exact ownsRow_of_blk Hr10.out (fun q hq => by simp only [Value.ownBlock, Option.some.injEq] at hq; subst hq; exact HbT.out _ hg'l hg'4 hg'v)
       ·intro e
        rcases hown' g' e with h | h
        ·exact hg'v h
        ·omega
      ·have e1 : (Hs' ++ [(⟨tg, st, en, ar⟩ : Hed)]).foldl topF 0 = topF (Hs'.foldl topF 0) ⟨tg, st, en, ar⟩ := by rw [List.foldl_append]; rfl
       rw [e1, z.2.2.2.2.1]
       exact (World.cell?_of_block (a := ⟨Z7, 0, none⟩) (fz' Z7 (by omega) (by omega) (by omega) hg7.symm (nv Z7 (by omega) (by omega) (by omega)))).trans Hc7.out
      ·intro k k3 k9 n3 n5
       have hk4 : k = 4 ∨ k = 6 ∨ k = 7 ∨ k = 8 := by omega
       rcases hk4 with rfl | rfl | rfl | rfl
       ·rw [z.2.2.1, World.frozen?_setCell]; exact Hf11.out
       ·rw [z.2.2.2.1]
        exact (World.frozen?_of_block (a := ⟨Z6, 0, none⟩) (HbT.out Z6 (by omega) (by omega) (nv Z6 (by omega) (by omega) (by omega)))).trans Hf6'.out
       ·rw [z.2.2.2.2.1]
        exact (World.frozen?_of_block (a := ⟨Z7, 0, none⟩) (fz' Z7 (by omega) (by omega) (by omega) hg7.symm (nv Z7 (by omega) (by omega) (by omega)))).trans Hf7.out
       ·refine (World.frozen?_of_block (a := ⟨w.heap.size + 8, 0, none⟩) (hk (w.heap.size + 8) (by omega) ?_)).trans (HI.out.fz 8 (by omega) (by omega) (by omega))
        rintro (h | h | h | h | h)
        ·omega
        ·omega
        ·omega
        ·exact nv (w.heap.size + 8) (by omega) (by omega) (by omega) h
        ·have := hfg.2; omega
     have HLeaf3 := hide LEAF3
     clear LEAF3 hK4
     have hle1 : (ar : Int) ≤ (vc : Int) := by omega
     have h4q := fun q => cell_reC (X := fun k => k = Z6 ∨ k = g) c4 (by rintro (h | h) <;> simp only at h <;> omega) q
     have h3q := fun q => cell_reC (X := fun k => k = Z6 ∨ k = g) y3' (by rintro (h | h) <;> simp only at h <;> omega) q
     refine anyK_beginR (fun k => k = Z6 ∨ k = g) 9 rfl (by kernel_rfl) (by kernel_rfl) ?_ l ?_
     ·exact fun ⟨_, _, h⟩ => h
     refine anyK_take 1 2 7 rfl (by decide) (by kernel_rfl) ?_ ?_
     ·exact fun _ _ d _ _ h => by cases d <;> exact h
     repeat (refine headC_step (fun K hK => ?_); go_simp; refine hK _ ?_; clear hK K)
     refine headC_nil ?_
     refine anyK_take 4 2 5 rfl (by decide) (by kernel_rfl) ?_ ?_
     ·exact fun _ _ d _ _ h => by cases d <;> exact h
     repeat (refine headC_step (fun K hK => ?_); go_simp; refine hK _ ?_; clear hK K)
     refine headC_nil ?_
     clear h4q h3q
     refine anyK_two 0 6 (by kernel_rfl) ?_ ?_
     ·refine stepK_run rfl ?_
      intro w3 h3 K2' hK2'
      have c3 := (Below.cell h3 (p := ⟨Z6, 0, none⟩) hz6l).trans Hc6.out
      go_simp
      refine hK2' _ _ (.of_ext h3) ?_
      have H3 := hide h3
      clear hK2' K2' c3 h3
      refine anyK_take 3 1 3 rfl (by decide) (by kernel_rfl) ?_ ?_
      ·exact fun _ _ d _ _ h => by cases d <;> exact h
      repeat (refine headC_step (fun K hK => ?_); go_simp; refine hK _ ?_; clear hK K)
      refine headC_nil ?_
      refine anyK_one 6 (by kernel_rfl) ?_
      refine stepK_run rfl ?_
      intro w5 h5 K2' hK2'
      go_simp
      refine hK2' _ _ (.of_ext (Ext.trans H3.out (Ext.trans h5 (Ext.alloc _ _)))) ?_
      clear hK2' K2'
      have Ye := hide (Ext.trans H3.out (Ext.trans h5 (Ext.alloc w5 (.cells #[.int .i64 (LN : Int)] 3))))
      have HSL := hide ((Blk.alloc w5 [.int .i64 (LN : Int)] 3) 0 _ rfl).1
      generalize w5.alloc (.cells #[.int .i64 (LN : Int)] 3) = Y at *
      generalize w5.heap.size = SL at *
      clear h5
      refine anyK_one 7 (by kernel_rfl) ?_
      refine stepK_run rfl ?_
      intro w7 h7 K2' hK2'
      have E7 := hide (Ext.trans Ye.out h7)
      have HO7 := hide (iowns_ext0 HOA.out E7.out)
      have hc7 := (Below.cell h7 (p := ⟨SL, 0, none⟩) (World.block_lt_of_cell? _ _ HSL.out)).trans HSL.out
      rw [if_pos (show _ = true by kernel_rfl)]
      refine wp_app1 _ _ rfl (w.heap.size + 3) g vc TK (by rw [HlA.out]; rfl) HO7.out SL (LN : Int) rfl hc7 (by rw [HlA.out]; omega) (by have := Below.size E7.out; have := Hz3.out; omega) ?_
      intro g' vc' w8 hO8 hg8 hat8
      refine hK2' _ _ ((Grw.of_ext E7.out).trans (grw_grown hg8 (.inr rfl))) ?_
      clear hK2' K2' hc7
      have HB8 : Hid (∀ k, k < W3.heap.size → k ≠ g → w8.heap[k]? = W3.heap[k]?) := fun k hk hn => (hg8.block k (Nat.lt_of_lt_of_le hk (Below.size E7.out)) (by simp; exact fun e => hn e)).trans (Below.block E7.out k hk)
      have HM8 : Hid (w8.os = W3.os ∧ w8.tape = W3.tape ∧ w8.output = W3.output ∧ W3.heap.size ≤ w8.heap.size) := ⟨hg8.os.trans E7.out.os, hg8.tape.trans E7.out.tape, hg8.output.trans E7.out.output, Nat.le_trans (Below.size E7.out) hg8.size⟩
      have Hat8 : Hid (g' = g ∨ W3.heap.size ≤ g') := by
       rcases hat8 with h | h
       ·exact .inl h
       ·exact .inr (by rw [h]; exact Below.size E7.out)
      have HO8 := hide hO8
      have HG8 := hide ((Grw.of_ext (X := fun k => k = Z6 ∨ k = g) E7.out).trans (grw_grown hg8 (.inr rfl)))
      clear hO8 hg8 hat8 HO7 h7 E7
      refine anyK_one 8 (by kernel_rfl) ?_
      refine stepK_run rfl ?_
      intro w9 h9 K2' hK2'
      have hb9 : w9.heap[Z6]? = W3.heap[Z6]? := (Below.block h9 _ (by have := HM8.out.2.2.2; omega)).trans (HB8.out _ hz6l hg6.symm)
      have c9 := (World.cell?_of_block (a := ⟨Z6, 0, none⟩) hb9).trans Hc6.out
      have f9 := (World.frozen?_of_block (a := ⟨Z6, 0, none⟩) hb9).trans Hf6.out
      have H9 := hide h9
      clear hb9 h9
      obtain ⟨NL, hNL⟩ : ∃ NL, (TK ++ [(LN : Int)]).length = NL := ⟨_, rfl⟩
      rw [hNL]
      have HNL := hide hNL
      clear hNL
      go_simp
      refine hK2' _ (w9.setCell ⟨Z6, 0, none⟩ (.slice (some ⟨g', 0, none⟩) NL vc')) ((HG8.out.trans (Grw.of_ext H9.out)).trans (Grw.of_touch ((Touch.refl _ w9).set 0 _) (.inl rfl))) ?_
      have C9 := hide c9
      have F9 := hide f9
      clear hK2' K2' c9 f9
      refine anyK_done (by kernel_rfl) ?_ 0
      intro w10 h10
      have hg4 : g' ≠ Z6 := by
       rcases Hat8.out with h | h
       ·rw [h]; exact hg6
       ·omega
      have hgl : g' < w8.heap.size := (owns_cells HO8.out).2.1
      have hbb : ∀ k, k < W3.heap.size → k ≠ Z6 → k ≠ g → w10.heap[k]? = W3.heap[k]? := fun k h1 h3 h4 => by
       have e1 := HM8.out.2.2.2
       have e2 := Below.size H9.out
       rw [Below.block h10 k (by simp [World.setCell]; omega), Below.heap_setCell _ _ _ _ (show k ≠ Z6 from h3), Below.block H9.out k (by omega), HB8.out k h1 h4]
      have hbg : w10.heap[g']? = w8.heap[g']? := by
       have e2 := Below.size H9.out
       rw [Below.block h10 g' (by simp [World.setCell]; omega), Below.heap_setCell _ _ _ _ (show g' ≠ Z6 from hg4), Below.block H9.out g' hgl]
      have hl6 : Z6 < (w9.setCell ⟨Z6, 0, none⟩ (.slice (some ⟨g', 0, none⟩) NL vc')).heap.size := by
       have e1 := HM8.out.2.2.2
       have e2 := Below.size H9.out
       simp [World.setCell]
       omega
      have h6' : w10.cell? ⟨Z6, 0, none⟩ = some (.slice (some ⟨g', 0, none⟩) NL vc') := (Below.cell h10 (p := ⟨Z6, 0, none⟩) hl6).trans (World.cell?_setCell_same _ _ _ C9.out)
      have f6' : w10.frozen? ⟨Z6, 0, none⟩ = false := (Below.frozen h10 (p := ⟨Z6, 0, none⟩) hl6).trans (by rw [World.frozen?_setCell]; exact F9.out)
      have hs10 : W3.heap.size ≤ w10.heap.size := by
       have e1 := HM8.out.2.2.2
       have e2 := Below.size H9.out
       have e3 := Below.size h10
       simp [World.setCell] at e3
       omega
      have hm10 : w10.os = W3.os ∧ w10.tape = W3.tape ∧ w10.output = W3.output := ⟨h10.os.trans (H9.out.os.trans HM8.out.1), h10.tape.trans (H9.out.tape.trans HM8.out.2.1), h10.output.trans (H9.out.output.trans HM8.out.2.2.1)⟩
      have hNLn : NL = ar + 1 := by rw [← HNL.out, List.length_append, HlA.out]; rfl
      have hr10 : w10.ownsRow (w.heap.size + 3) 3 1 (.slice (some ⟨g', 0, none⟩) NL vc') NL (iys (TK ++ [(LN : Int)])) := by
       have h1 := HO8.out
       rw [HNL.out] at h1
       exact ownsRow_of_blk h1 (fun q hq => by simp only [Value.ownBlock, Option.some.injEq] at hq; subst hq; exact hbg)
      simp only [Exit.then]
      refine HLeaf3.out w10 g' NL vc' _ _ _ _ _ _ _ _ hs10 hm10 hbb h6' f6' hNLn hr10 Hat8.out
     ·refine stepK_run rfl ?_
      intro w5 h5 K2' hK2'
      go_simp
      refine hK2' _ _ (.of_ext (Ext.trans h5 (Ext.alloc _ _))) ?_
      clear hK2' K2'
      have Ye0 := hide (Ext.trans h5 (Ext.alloc w5 (.cells #[.int .i64 (LN : Int)] 3)))
      have HSL0 := hide ((Blk.alloc w5 [.int .i64 (LN : Int)] 3) 0 _ rfl).1
      generalize w5.alloc (.cells #[.int .i64 (LN : Int)] 3) = Y0 at *
      generalize w5.heap.size = SL at *
      clear h5
      refine anyK_one 0 (by kernel_rfl) ?_
      refine stepK_run rfl ?_
      intro Y h3 K2' hK2'
      have c3 := (Below.cell (Ye0.out.trans h3) (p := ⟨Z6, 0, none⟩) hz6l).trans Hc6.out
      have Ye := hide (Ye0.out.trans h3)
      have HSL := hide ((Below.cell h3 (p := ⟨SL, 0, none⟩) (World.block_lt_of_cell? _ _ HSL0.out)).trans HSL0.out)
      go_simp
      refine hK2' _ _ (.of_ext Ye.out) ?_
      clear hK2' K2' c3 h3 Ye0 HSL0
      refine anyK_take 3 1 2 rfl (by decide) (by kernel_rfl) ?_ ?_
      ·exact fun _ _ d _ _ h => by cases d <;> exact h
      repeat (refine headC_step (fun K hK => ?_); go_simp; refine hK _ ?_; clear hK K)
      refine headC_nil ?_
      refine anyK_one 7 (by kernel_rfl) ?_
      refine stepK_run rfl ?_
      intro w7 h7 K2' hK2'
      have E7 := hide (Ext.trans Ye.out h7)
      have HO7 := hide (iowns_ext0 HOA.out E7.out)
      have hc7 := (Below.cell h7 (p := ⟨SL, 0, none⟩) (World.block_lt_of_cell? _ _ HSL.out)).trans HSL.out
      rw [if_pos (show _ = true by kernel_rfl)]
      refine wp_app1 _ _ rfl (w.heap.size + 3) g vc TK (by rw [HlA.out]; rfl) HO7.out SL (LN : Int) rfl hc7 (by rw [HlA.out]; omega) (by have := Below.size E7.out; have := Hz3.out; omega) ?_
      intro g' vc' w8 hO8 hg8 hat8
      refine hK2' _ _ ((Grw.of_ext E7.out).trans (grw_grown hg8 (.inr rfl))) ?_
      clear hK2' K2' hc7
      have HB8 : Hid (∀ k, k < W3.heap.size → k ≠ g → w8.heap[k]? = W3.heap[k]?) := fun k hk hn => (hg8.block k (Nat.lt_of_lt_of_le hk (Below.size E7.out)) (by simp; exact fun e => hn e)).trans (Below.block E7.out k hk)
      have HM8 : Hid (w8.os = W3.os ∧ w8.tape = W3.tape ∧ w8.output = W3.output ∧ W3.heap.size ≤ w8.heap.size) := ⟨hg8.os.trans E7.out.os, hg8.tape.trans E7.out.tape, hg8.output.trans E7.out.output, Nat.le_trans (Below.size E7.out) hg8.size⟩
      have Hat8 : Hid (g' = g ∨ W3.heap.size ≤ g') := by
       rcases hat8 with h | h
       ·exact .inl h
       ·exact .inr (by rw [h]; exact Below.size E7.out)
      have HO8 := hide hO8
      have HG8 := hide ((Grw.of_ext (X := fun k => k = Z6 ∨ k = g) E7.out).trans (grw_grown hg8 (.inr rfl)))
      clear hO8 hg8 hat8 HO7 h7 E7
      refine anyK_one 8 (by kernel_rfl) ?_
      refine stepK_run rfl ?_
      intro w9 h9 K2' hK2'
      have hb9 : w9.heap[Z6]? = W3.heap[Z6]? := (Below.block h9 _ (by have := HM8.out.2.2.2; omega)).trans (HB8.out _ hz6l hg6.symm)
      have c9 := (World.cell?_of_block (a := ⟨Z6, 0, none⟩) hb9).trans Hc6.out
      have f9 := (World.frozen?_of_block (a := ⟨Z6, 0, none⟩) hb9).trans Hf6.out
      have H9 := hide h9
      clear hb9 h9
      obtain ⟨NL, hNL⟩ : ∃ NL, (TK ++ [(LN : Int)]).length = NL := ⟨_, rfl⟩
      rw [hNL]
      have HNL := hide hNL
      clear hNL
      go_simp
      refine hK2' _ (w9.setCell ⟨Z6, 0, none⟩ (.slice (some ⟨g', 0, none⟩) NL vc')) ((HG8.out.trans (Grw.of_ext H9.out)).trans (Grw.of_touch ((Touch.refl _ w9).set 0 _) (.inl rfl))) ?_
      have C9 := hide c9
      have F9 := hide f9
      clear hK2' K2' c9 f9
      refine anyK_done (by kernel_rfl) ?_ 0
      intro w10 h10
      have hg4 : g' ≠ Z6 := by
       rcases Hat8.out with h | h
       ·rw [h]; exact hg6
       ·omega
      have hgl : g' < w8.heap.size := (owns_cells HO8.out).2.1
      have hbb : ∀ k, k < W3.heap.size → k ≠ Z6 → k ≠ g → w10.heap[k]? = W3.heap[k]? := fun k h1 h3 h4 => by
       have e1 := HM8.out.2.2.2
       have e2 := Below.size H9.out
       rw [Below.block h10 k (by simp [World.setCell]; omega), Below.heap_setCell _ _ _ _ (show k ≠ Z6 from h3), Below.block H9.out k (by omega), HB8.out k h1 h4]
      have hbg : w10.heap[g']? = w8.heap[g']? := by
       have e2 := Below.size H9.out
       rw [Below.block h10 g' (by simp [World.setCell]; omega), Below.heap_setCell _ _ _ _ (show g' ≠ Z6 from hg4), Below.block H9.out g' hgl]
      have hl6 : Z6 < (w9.setCell ⟨Z6, 0, none⟩ (.slice (some ⟨g', 0, none⟩) NL vc')).heap.size := by
       have e1 := HM8.out.2.2.2
       have e2 := Below.size H9.out
       simp [World.setCell]
       omega
      have h6' : w10.cell? ⟨Z6, 0, none⟩ = some (.slice (some ⟨g', 0, none⟩) NL vc') := (Below.cell h10 (p := ⟨Z6, 0, none⟩) hl6).trans (World.cell?_setCell_same _ _ _ C9.out)
      have f6' : w10.frozen? ⟨Z6, 0, none⟩ = false := (Below.frozen h10 (p := ⟨Z6, 0, none⟩) hl6).trans (by rw [World.frozen?_setCell]; exact F9.out)
      have hs10 : W3.heap.size ≤ w10.heap.size := by
       have e1 := HM8.out.2.2.2
       have e2 := Below.size H9.out
       have e3 := Below.size h10
       simp [World.setCell] at e3
       omega
      have hm10 : w10.os = W3.os ∧ w10.tape = W3.tape ∧ w10.output = W3.output := ⟨h10.os.trans (H9.out.os.trans HM8.out.1), h10.tape.trans (H9.out.tape.trans HM8.out.2.1), h10.output.trans (H9.out.output.trans HM8.out.2.2.1)⟩
      have hNLn : NL = ar + 1 := by rw [← HNL.out, List.length_append, HlA.out]; rfl
      have hr10 : w10.ownsRow (w.heap.size + 3) 3 1 (.slice (some ⟨g', 0, none⟩) NL vc') NL (iys (TK ++ [(LN : Int)])) := by
       have h1 := HO8.out
       rw [HNL.out] at h1
       exact ownsRow_of_blk h1 (fun q hq => by simp only [Value.ownBlock, Option.some.injEq] at hq; subst hq; exact hbg)
      simp only [Exit.then]
      refine HLeaf3.out w10 g' NL vc' _ _ _ _ _ _ _ _ hs10 hm10 hbb h6' f6' hNLn hr10 Hat8.out
    have HLeaf2 := hide LEAF2
    clear LEAF2 hK3
    have c7 : W2.cell? ⟨Z7, 0, none⟩ = some (.int .i64 ((Hs'.foldl topF 0 : Nat) : Int)) := (Below.cell HE2.out (p := ⟨Z7, 0, none⟩) (by show Z7 < W.heap.size; have := Z'.out.2.2.2.2.1; omega)).trans (by rw [← Z'.out.2.2.2.2.1]; exact HI.out.c7)
    have f7 : W2.frozen? ⟨Z7, 0, none⟩ = false := (Below.frozen HE2.out (p := ⟨Z7, 0, none⟩) (by show Z7 < W.heap.size; have := Z'.out.2.2.2.2.1; omega)).trans (by rw [← Z'.out.2.2.2.2.1]; exact HI.out.fz 7 (by omega) (by omega) (by omega))
    have HA2 := hide (HA.out.keep (O' := O) (C := W2) (by omega) HI.out.ours (fun k hk _ => Below.block HE2.out k hk) (fun k hk => .inl hk))
    by_cases har0 : ar = 0
    ·have hz : ((ar : Int) == 0) = true := by rw [har0]; rfl
     have Har0 := hide har0
     clear har0
     gi_wp2
     refine HLeaf2.out (W2.setCell ⟨Z7, 0, none⟩ (.int .i64 (en : Int))) L _ _ _ _ _ _ _ _ _ _ _ _ _ _ _ _ (by simp [World.setCell]) ⟨rfl, rfl, rfl⟩ (fun k _ h7 _ => Below.heap_setCell _ _ _ _ (show k ≠ Z7 from h7)) ?_ (by rw [World.frozen?_setCell]; exact f7) ?_ ?_ (fun t ht h0 => ⟨HA2.out.fb t ht h0, HA2.out.nb t ht h0, HA.out.acc.bods.lt ht h0⟩)
     ·rw [show topF (Hs'.foldl topF 0) ⟨tg, st, en, ar⟩ = en from if_pos Har0.out]
      exact World.cell?_setCell_same _ _ _ c7
     ·have nz : ∀ q, Fr w.heap.size O q → q ≠ Z7 := fun q hq => by have := hq.2; have := Z'.out.2.2.2.2.1; omega
      exact HA2.out.acc.of_blk (fun q hq => Below.heap_setCell _ _ _ _ (show q ≠ Z7 from nz q (HA2.out.fv q hq))) (fun t ht h0 => Below.heap_setCell _ _ _ _ (show t.blk ≠ Z7 from nz _ (HA2.out.fb t ht h0)))
     ·rw [show bmpL (Hs'.foldl (addH f) ([], [])).1 (Hs'.foldl (addH f) ([], [])).2 ar = (Hs'.foldl (addH f) ([], [])).1 from if_pos Har0.out]
      exact HA2.out.its
    ·have hz : ((ar : Int) == 0) = false := by simp; omega
     have Har0 := hide har0
     have har1 : 0 < ar := by omega
     have Hc7 := hide c7
     have Hf7 := hide f7
     clear har0 y2 c7 f7
     obtain ⟨S2, hS2⟩ : ∃ S2, (Hs'.foldl (addH f) ([], [])).2 = S2 := ⟨_, rfl⟩
     have hrow2 := HA2.out.row
     have hnn := HA2.out.nn
     rw [hS2] at hrow2 hnn
     obtain ⟨q, hq⟩ : ∃ q, S2.getD (ar - 1) 0 = q := ⟨_, rfl⟩
     have har' : ar ≤ n := by rw [← hnn, ← hS2]; exact har
     have hmem : q ∈ S2 := by
      rw [← hq, List.getD_eq_getElem?_getD, List.getElem?_eq_getElem (show ar - 1 < S2.length by omega)]
      exact List.getElem_mem _
     have hqL : q < L.length := by
      have h1 := addH_low_all (f := f) Hs' ([], []) (fun q hq => by cases hq) q (by rw [hS2]; exact hmem)
      rw [← HA2.out.its, List.length_map] at h1
      exact h1
     obtain ⟨A, t, C, hL, hA⟩ : ∃ A t C, L = A ++ t :: C ∧ A.length = q := ⟨L.take q, L[q], L.drop (q + 1), by rw [List.getElem_cons_drop]; exact (List.take_append_drop q L).symm, by rw [List.length_take]; omega⟩
     subst hL
     have hkid := addH_kid (f := f) Hs' ([], []) 0 (Int.le_refl _) (fun x hx => by cases hx) (ct t) (by rw [← HA2.out.its]; exact List.mem_map.2 ⟨t, by simp, rfl⟩)
     have hk0 : 0 ≤ t.kid := hkid.1
     have hk1 : t.kid ≤ 2000 := by have h1 : t.kid ≤ 0 + (Hs'.length : Int) := hkid.2; omega
     obtain ⟨gl, cl, hvl, hglB, hgll⟩ := slc_at HA2.out.acc.row (by simp; omega)
     obtain ⟨LN, hLN⟩ : ∃ LN, (A ++ t :: C).length = LN := ⟨_, rfl⟩
     have hlnq : q < LN := by rw [← hLN]; exact hqL
     have hacc2 := HA2.out.acc
     have c4 := HA2.out.c4
     have c6 := HA2.out.c6
     have hrl := hacc2.row
     rw [hLN] at hvl c4 hrl hacc2
     simp only [Value.slice.injEq] at hvl
     obtain ⟨rfl, -, rfl⟩ := hvl
     have hln1 : LN ≤ 4000 := by
      have h1 := addH_len (f := f) Hs' ([], [])
      rw [← HA2.out.its, List.length_map, hLN] at h1
      simp at h1
      omega
     have hlnl : (lnL S2).length = n := by rw [lnL_len, hnn]
     have cq : W2.cell? ⟨g, ar - 1, none⟩ = some (.int .i64 (q : Int)) := by
      rw [World.ownsRow.cellAt hrow2 (ar - 1) (by omega)]
      unfold iys lnL
      rw [List.getElem?_map, List.getElem?_map, List.getElem?_eq_getElem (show ar - 1 < S2.length by omega)]
      rw [List.getD_eq_getElem?_getD, List.getElem?_eq_getElem (show ar - 1 < S2.length by omega)] at hq
      simp at hq
      simp [hq]
     have hr3 : ∀ j u, (itW t)[j]? = some u → W2.cell? ⟨gl, q * 3 + j, none⟩ = some u := fun j u hj => by
      have hj3 : j < 3 := by have := (List.getElem?_eq_some_iff.1 hj).1; simpa [itW] using this
      rw [World.ownsRow.cellAt hrl (q * 3 + j) (by omega), rowL_at, List.getElem?_append_right (by rw [rowL_len]; omega), rowL_len, show q * 3 + j - A.length * 3 = j by omega, List.getElem?_append_left (by simpa [itW] using hj3)]
      exact hj
     have ck := hr3 2 (.int .i64 t.kid) rfl
     have fk : W2.frozen? ⟨gl, q * 3 + 2, none⟩ = false := World.ownsRow.frozenAt hrl _
     rw [Z'.out.2.2.1] at c4
     rw [Z'.out.2.2.2.1] at c6
     have ki : (ar : Int) - 1 = ((ar - 1 : Nat) : Int) := by omega
     obtain ⟨a1, ha1⟩ : ∃ a1, ar - 1 = a1 := ⟨_, rfl⟩
     rw [ha1] at cq ki
     have hsub : IntKind.i64.wrap (a1 : Int) = (a1 : Int) := by rw [IntKind.wrap_i64]; omega
     have hsub2 : (ar : Int) - 1 = (a1 : Int) := ki
     have hi1 : (a1 : Int) < (n : Int) := by omega
     have hi2 : (q : Int) < (LN : Int) := by omega
     have hadd : IntKind.i64.wrap (t.kid + 1) = t.kid + 1 := by rw [IntKind.wrap_i64]; omega
     have d4 := cell_regrown c4
     have d6 := cell_regrown c6
     have dq := cell_regrown cq
     have dk := cell_regrown ck
     have dy := cell_regrown y3
     have Hr := hide hr3
     have HLN := hide hLN
     have Hac := hide hacc2
     have Hq := hide hq
     have HS2 := hide hS2
     have HA' := hide hA
     have Hc4 := hide ck
     have Hfk := hide fk
     clear c4 c6 cq ck hrl hrow2 hmem hkid hr3 hLN hacc2 hq hS2 hA ki fk
     gi_wp2_with fail
     clear y3
     refine region_heads_tailR 13 ?_ ?_ ?_ l ?_ ?_ ?_
     ·kernel_rfl
     ·kernel_rfl
     ·exact fun ⟨_, _, h⟩ => h
     ·kernel_rfl
     ·exact fun _ _ d _ _ h => by cases d <;> exact h
     repeat (refine headS_step (fun K hK => ?_); go_simp; refine hK _ ?_; clear hK K)
     refine headS_nil ?_
     intro w5 hw5
     simp only [List.drop_succ_cons, List.drop_zero]
     have hz7 := Z'.out.2.2.2.2.1
     have hfl := HA2.out.fv gl rfl
     have hgl7 : gl ≠ Z7 := by have := hfl.2; omega
     have ck := (Below.cell hw5 (p := ⟨gl, q * 3 + 2, none⟩) (World.block_lt_of_cell? _ _ Hc4.out)).trans Hc4.out
     have fk := (Below.frozen hw5 (p := ⟨gl, q * 3 + 2, none⟩) (World.block_lt_of_cell? _ _ Hc4.out)).trans Hfk.out
     have hz7l : Z7 < W2.heap.size := World.block_lt_of_cell? _ _ Hc7.out
     have C7 := hide ((Below.cell hw5 (p := ⟨Z7, 0, none⟩) hz7l).trans Hc7.out)
     have F7 := hide ((Below.frozen hw5 (p := ⟨Z7, 0, none⟩) hz7l).trans Hf7.out)
     have Hw5 := hide hw5
     clear d4 d6 dq dk dy hw5 hz7 hfl hz7l
     go_wp2
     refine HLeaf2.out (w5.setCell ⟨gl, q * 3 + 2, none⟩ (.int .i64 (t.kid + 1))) (A ++ ⟨t.tag, t.kid + 1, t.ad, t.blk, t.off, t.len, t.cap, t.f⟩ :: C) _ _ _ _ _ _ _ _ _ _ _ _ _ _ _ _ (by have := Below.size Hw5.out; simp [World.setCell]; exact this) ⟨Hw5.out.os, Hw5.out.tape, Hw5.out.output⟩ (fun k hk _ hv => (Below.heap_setCell _ _ _ _ (show k ≠ gl by rintro rfl; exact hv rfl)).trans (Below.block Hw5.out k hk)) ?_ (by rw [World.frozen?_setCell]; exact F7.out) ?_ ?_ ?_
     ·rw [show topF (Hs'.foldl topF 0) ⟨tg, st, en, ar⟩ = Hs'.foldl topF 0 from if_neg Har0.out]
      exact (World.cell?_of_block (a := ⟨Z7, 0, none⟩) (Below.heap_setCell _ _ _ _ (show Z7 ≠ gl from hgl7.symm))).trans C7.out
     ·have h1 := (Hac.out.ext Hw5.out).setKid (t.kid + 1)
      rw [HLN.out, show q * 3 + 2 = 3 * A.length + 2 by rw [HA'.out]; omega]
      exact h1
     ·rw [show bmpL (Hs'.foldl (addH f) ([], [])).1 (Hs'.foldl (addH f) ([], [])).2 ar = bmp 1 (Hs'.foldl (addH f) ([], [])).1 ((Hs'.foldl (addH f) ([], [])).2.getD (ar - 1) 0) from if_neg Har0.out, HS2.out, Hq.out, ← HA2.out.its, List.map_append, List.map_cons, List.map_append, List.map_cons]
      have h1 := bmp_end 1 (A.map ct) (C.map ct) (ct t)
      rw [List.length_map, HA'.out] at h1
      rw [h1]
      rfl
     ·intro s hs h0
      have hcs : s.blk = t.blk ∧ s.len = t.len ∧ s.cap = t.cap ∨ s ∈ A ++ t :: C := by
       rcases List.mem_append.1 hs with hs | hs
       ·exact .inr (List.mem_append.2 (.inl hs))
       ·rcases List.mem_cons.1 hs with rfl | hs
        ·exact .inl ⟨rfl, rfl, rfl⟩
        ·exact .inr (List.mem_append.2 (.inr (List.mem_cons.2 (.inr hs))))
      rcases hcs with ⟨e1, e2, e3⟩ | hs
      ·rw [e1]
       have q2 := HA2.out.nb t (by simp) (by omega)
       exact ⟨HA2.out.fb t (by simp) (by omega), ⟨q2.1, by unfold Cp; rw [e2, e3]; exact q2.2⟩, HA.out.acc.bods.lt (t := t) (by simp) (by omega)⟩
      ·exact ⟨HA2.out.fb s hs h0, HA2.out.nb s hs h0, HA.out.acc.bods.lt hs h0⟩
   have HLeaf1 := hide LEAF1
   clear LEAF1 hK2
   refine ⟨trivial, ?_⟩
   refine (CallsIn.inRound l (callsIn_wide.2 (HMd.out _))).mono ?_
   rintro e' w' ⟨rfl, hw⟩
   rw [hw]
   clear hw w'
   dsimp only
   obtain ⟨md, hmd⟩ : ∃ md, mdT tg = md := ⟨_, rfl⟩
   rw [hmd]
   have Hmd := hide hmd
   clear hmd
   obtain ⟨W1, hW1⟩ : ∃ z, W.alloc (.cells #[.int .i64 tg, .slice none 0 0, .int .i64 0] 40) = z := ⟨_, rfl⟩
   have hB1 : Blk W1 (W0.heap.size + 1) [.int .i64 tg, .slice none 0 0, .int .i64 0] := by rw [← hszW1, ← hW1]; exact Blk.alloc W _ 40
   have hE1 : Ext W W1 := by rw [← hW1]; exact Ext.alloc _ _
   have hs1z : W1.heap.size = W0.heap.size + 2 := by rw [← hW1]; simp; omega
   rw [hW1]
   have HB1 := hide hB1
   have HE1 := hide hE1
   have Hs1z := hide hs1z
   clear hW1 hB1 hE1 hs1z
   cases md
   case true =>
    gi_wp2
    refine HLeaf1.out _ none 0 0 0 (fun _ => 0) _ _ _ _ _ _ _ _ _ _ HE1.out HB1.out (BOwn.nil _ _ _ _ _) (fun h => absurd h (Nat.lt_irrefl _)) ?_ (Nat.zero_le _)
    show Ic.mk tg 0 (if mdT tg then [] else _) = _
    rw [Hmd.out]
    rfl
   case false =>
    have cb := (Below.cell HE1.out (p := ⟨w.heap.size, 0, none⟩) (World.block_lt_of_cell? _ _ HI.out.c0)).trans HI.out.c0
    have x1 := ((HBX.out 1 _ rfl).1)
    have hW0l : W0.heap.size < W.heap.size := by omega
    have y1 := (Below.cell HE1.out (p := ⟨W0.heap.size, 1, none⟩) hW0l).trans (HBX.out 1 (.int .i64 (st : Int)) rfl).1
    have y2 := (Below.cell HE1.out (p := ⟨W0.heap.size, 2, none⟩) hW0l).trans (HBX.out 2 (.int .i64 (en : Int)) rfl).1
    clear x1
    have hs1 : (st : Int) ≤ (en : Int) := by omega
    have hs2 : (en : Int) ≤ (cap : Int) := by omega
    by_cases hcl : st = cap
    ·subst hcl
     have hln : en = st := by omega
     subst hln
     have HCl := hide (fun W' (h : Ext W1 W') => clone_any (some ⟨b, off, none⟩) b off 0 0 (fun _ => 0) W' ⟨fun h => absurd h (Nat.lt_irrefl _), fun i hi => absurd hi (Nat.not_lt_zero _)⟩ (Nat.zero_le _))
     gi_wp2_with fail
     refine ⟨trivial, ?_⟩
     refine (CallsIn.inRound l (callsIn_wide.2 (HCl.out _ (Ext.refl _)))).mono ?_
     rintro e' w5 ⟨v5, rfl, hO5, hE5⟩
     obtain ⟨ya, yg, yc, rfl, hyg, hyn, hyc, hyB⟩ := owns_seg hO5
     have HB5 := hide hyB
     have hBI := HB1.out.ext hE5 (by have := Hs1z.out; omega)
     have c9 := (hBI 1 _ rfl).1
     have f9 := (hBI 1 _ rfl).2
     have E5 := hide hE5
     have Hyg := hide hyg
     have Hyn := hide (And.intro hyn hyc)
     clear hO5 hE5 hyB hyg hBI hyn hyc
     dsimp only
     gi_wp2_with fail
     refine HLeaf1.out (w5.setCell ⟨W0.heap.size + 1, 1, none⟩ (.slice ya (0) yc)) ya yg (0) yc (fun _ => 0) _ _ _ _ _ _ _ _ _ _ (Below.setCell (p := ⟨W0.heap.size + 1, 1, none⟩) (HE1.out.trans E5.out) (by show W.heap.size ≤ W0.heap.size + 1; omega) _) ?_ (HB5.out.of_blk (fun _ => Below.heap_setCell _ _ _ _ (show yg ≠ W0.heap.size + 1 by have := Hyg.out; have := Hs1z.out; omega))) (fun _ => by have := Hyg.out; have := Hs1z.out; have := Hyn.out; omega) ?_ (by omega)
     ·have hBI := HB1.out.ext E5.out (by have := Hs1z.out; omega)
      exact Blk.set1 hBI 1 _ (by simp)
     ·show Ic.mk tg 0 (if mdT tg then [] else _) = _
      rw [Hmd.out]
      simp
    ·have hcl' : ¬ cap = st := fun h => hcl h.symm
     have HCl := hide (fun W' (h : Ext W1 W') => clone_any (some ⟨b, off + st, none⟩) b (off + st) (en - st) (cap - st) (fun i => f (st + i)) W' (by
      have hs := Hs.out.of_all (HI.out.ext.trans (HE1.out.trans h))
      exact ⟨fun _ => rfl, fun i hi => by have := hs.cell (st + i) (by omega); rw [Nat.add_assoc]; exact this⟩) (by omega))
     gi_wp2_with fail
     refine ⟨trivial, ?_⟩
     refine (CallsIn.inRound l (callsIn_wide.2 (HCl.out _ (Ext.refl _)))).mono ?_
     rintro e' w5 ⟨v5, rfl, hO5, hE5⟩
     obtain ⟨ya, yg, yc, rfl, hyg, hyn, hyc, hyB⟩ := owns_seg hO5
     have HB5 := hide hyB
     have hBI := HB1.out.ext hE5 (by have := Hs1z.out; omega)
     have c9 := (hBI 1 _ rfl).1
     have f9 := (hBI 1 _ rfl).2
     have E5 := hide hE5
     have Hyg := hide hyg
     have Hyn := hide (And.intro hyn hyc)
     clear hO5 hE5 hyB hyg hBI hyn hyc
     dsimp only
     gi_wp2_with fail
     refine HLeaf1.out (w5.setCell ⟨W0.heap.size + 1, 1, none⟩ (.slice ya (en - st) yc)) ya yg (en - st) yc (fun i => f (st + i)) _ _ _ _ _ _ _ _ _ _ (Below.setCell (p := ⟨W0.heap.size + 1, 1, none⟩) (HE1.out.trans E5.out) (by show W.heap.size ≤ W0.heap.size + 1; omega) _) ?_ (HB5.out.of_blk (fun _ => Below.heap_setCell _ _ _ _ (show yg ≠ W0.heap.size + 1 by have := Hyg.out; have := Hs1z.out; omega))) (fun _ => by have := Hyg.out; have := Hs1z.out; have := Hyn.out; omega) ?_ (by omega)
     ·have hBI := HB1.out.ext E5.out (by have := Hs1z.out; omega)
      exact Blk.set1 hBI 1 _ (by simp)
     ·show Ic.mk tg 0 (if mdT tg then [] else _) = _
      rw [Hmd.out]
      rfl
 case done =>
  rintro O xs W hS ⟨Hs, rfl, hI⟩ hOd hlt hD
  obtain ⟨c0, rfl⟩ := tel_inl hS
  obtain ⟨v, L, g, n, vc, ha⟩ := hI.it
  obtain ⟨u1, e1⟩ := hI.c1
  obtain ⟨u2, e2⟩ := hI.c2
  obtain ⟨va, vcap, rfl⟩ := ownsRow_slc ha.acc.row
  have z := HZ.out
  have hvs := HVs.out
  have hbig := hI.big
  have c1 : W.cell? ⟨Z1, 0, none⟩ = some u1 := by rw [← z.1]; exact e1
  have c2 : W.cell? ⟨Z2, 0, none⟩ = some u2 := by rw [← z.2.1]; exact e2
  have c4 : W.cell? ⟨Z4, 0, none⟩ = some (.slice va L.length vcap) := by rw [← z.2.2.1]; exact ha.c4
  have c7 : W.cell? ⟨Z7, 0, none⟩ = some (.int .i64 ((Hs.foldl topF 0 : Nat) : Int)) := by rw [← z.2.2.2.2.1]; exact hI.c7
  have f1 : W.frozen? ⟨Z1, 0, none⟩ = false := by rw [← z.1]; exact hI.fz 1 (by omega) (by omega) (by omega)
  have f2 : W.frozen? ⟨Z2, 0, none⟩ = false := by rw [← z.2.1]; exact hI.fz 2 (by omega) (by omega) (by omega)
  have hll : (Hs.foldl (addH f) ([], [])).1.length = L.length := by rw [← ha.its, List.length_map]
  have hne : Z1 ≠ Z2 := by omega
  have hne2 : Z2 ≠ Z1 := by omega
  have fin : ∀ (v u : Value) (W' : World), W.heap.size ≤ W'.heap.size → W'.os = W.os → W'.tape = W.tape → W'.output = W.output → (∀ k, k < W.heap.size → k ≠ Z1 → k ≠ Z2 → W'.heap[k]? = W.heap[k]?) → W'.cell? ⟨Z1, 0, none⟩ = some v → W'.cell? ⟨Z2, 0, none⟩ = some u →
    (v = .slice none 0 0 ∨ v = .slice va L.length vcap) →
    (v = .slice va L.length vcap → LAcc w.heap.size (W'.putObj V.heap.size (.deferred none)) v L) ∧ (loadVar 35 ⟨Z1, 0, none⟩).run Tryz.prog (W'.putObj V.heap.size (.deferred none)) = .ok v (W'.putObj V.heap.size (.deferred none)) ∧ (loadVar 73 ⟨Z2, 0, none⟩).run Tryz.prog (W'.putObj V.heap.size (.deferred none)) = .ok u (W'.putObj V.heap.size (.deferred none)) ∧ W'.heap[V.heap.size]? = some (.deferred (some [])) ∧ Ext w (W'.putObj V.heap.size (.deferred none)) := by
   intro v u W' hs1 ho ht hout hk h1 h2 hv
   refine ⟨fun hv => ?_, ld_items _ _ _ ((World.cell?_of_block (a := ⟨Z1, 0, none⟩) (World.putObj_heap_other (show Z1 ≠ V.heap.size by omega))).trans h1), ld_error _ _ _ ((World.cell?_of_block (a := ⟨Z2, 0, none⟩) (World.putObj_heap_other (show Z2 ≠ V.heap.size by omega))).trans h2), (hk V.heap.size hlt (by omega) (by omega)).trans hD, ?_⟩
   ·subst hv
    have hfree : ∀ q, Fr w.heap.size O q → q ≠ Z1 ∧ q ≠ Z2 ∧ q ≠ V.heap.size := fun q hq => ⟨by have := hq.2; omega, by have := hq.2; omega, fun e => hq.1 (by rw [e]; exact hOd)⟩
    refine (ha.acc.low (show w.heap.size ≤ w.heap.size + 3 by omega)).of_blk (fun q hq => ?_) (fun t ht h0 => ?_)
    ·have k := hfree q (ha.fv q hq)
     exact (World.putObj_heap_other k.2.2).trans (hk q (ha.acc.row.lt q hq).2 k.1 k.2.1)
    ·have k := hfree t.blk (ha.fb t ht h0)
     exact (World.putObj_heap_other k.2.2).trans (hk _ (ha.acc.bods.lt ht h0) k.1 k.2.1)
   ·refine ⟨ho.trans hI.ext.os, ht.trans hI.ext.tape, hout.trans hI.ext.output, by have := hI.ext.size; simp; omega, fun k hkl => ?_⟩
    exact (World.putObj_heap_other (show k ≠ V.heap.size by omega)).trans ((hk k (by omega) (by omega) (by omega)).trans (hI.ext.block k hkl))
  have fin2 : ∀ (v u : Value), (v = .slice none 0 0 ∨ v = .slice va L.length vcap) → _ := fun v u hv => fin v u ((W.setCell ⟨Z1, 0, none⟩ v).setCell ⟨Z2, 0, none⟩ u) (by simp [World.setCell]) rfl rfl rfl (fun k _ k1 k2 => (Below.heap_setCell _ _ _ _ (show k ≠ Z2 from k2)).trans (Below.heap_setCell _ _ _ _ (show k ≠ Z1 from k1))) ((World.cell?_of_block (a := ⟨Z1, 0, none⟩) (Below.heap_setCell _ _ _ _ (show Z1 ≠ Z2 from hne))).trans (World.cell?_setCell_same _ _ _ c1)) (World.cell?_setCell_same _ _ _ ((World.cell?_of_block (a := ⟨Z2, 0, none⟩) (Below.heap_setCell _ _ _ _ (show Z2 ≠ Z1 from hne2))).trans c2)) hv
  have Fin := hide fin
  have Fin2 := hide fin2
  have Its := hide (show L.map ct = _ ∧ CpL L from ⟨ha.its, fun t ht h0 => (ha.nb t ht h0).2⟩)
  have Hll := hide hll
  have HD := hide hD
  have HS := hide hS
  have Hc0 := hide c0
  have cB : W.cell? ⟨w.heap.size, 0, none⟩ = some (.slice ad bn cap) := hI.c0
  clear hI ha fin fin2 hll hD hS c0 z hseq hvs hbig e1 e2 hlt hOd
  by_cases h3 : 300 < L.length
  ·have h3' : (300 : Int) < (L.length : Int) := by omega
   gi_wp2
   obtain ⟨-, k2, k3, k4, k5⟩ := Fin2.out (.slice none 0 0) (.iface 77 (.agg #[.int .i64 7, .int .i64 0])) (.inl rfl)
   refine ⟨by simp, .inl ⟨_, _, rfl, run_takeDeferred (ds := []) k4, ?_⟩⟩
   refine ⟨_, results_2c Tryz.results47 rfl rfl k2 k3, ?_⟩
   exact ⟨_, _, rfl, k5, .inr (.inl ⟨Hc0.out, by rw [Hll.out]; exact h3, rfl⟩)⟩
  ·have h3' : ¬ (300 : Int) < (L.length : Int) := by omega
   by_cases h5 : Hs.foldl topF 0 < bn
   ·have h5' : ((Hs.foldl topF 0 : Nat) : Int) < (bn : Int) := by omega
    have f7 := fun q => cell_reC (X := fun k => k = Z1 ∨ k = Z2) c7 (by have z := HZ.out; rintro (h | h) <;> simp only at h <;> omega) q
    obtain ⟨tp, htp⟩ : ∃ tp : Int, ((Hs.foldl topF 0 : Nat) : Int) = tp := ⟨_, rfl⟩
    rw [htp] at c7 f7 h5'
    have Htp := hide htp
    clear htp
    have C1 := hide c1
    have C2 := hide c2
    have F1 := hide f1
    have F2 := hide f2
    gi_wp2_with fail
    clear c1 c2 f1 f2
    refine wpIn_mono (Q := onlyN _) ?_ (fun _ _ _ h => onlyN_le h)
    refine wpIn_wide.2 ?_
    refine anyK_begin (fun k => k = Z1 ∨ k = Z2) 5 rfl (by kernel_rfl) ?_
    refine anyK_take 0 3 2 rfl (by decide) (by kernel_rfl) (fun _ _ _ _ _ h => h) ?_
    repeat (refine headC_step (fun K hK => ?_); go_simp; refine hK _ ?_; clear hK K)
    refine headC_nil ?_
    clear f7
    refine anyK_one 3 (by kernel_rfl) ?_
    refine stepK_run rfl ?_
    intro w3 h3e K2 hK2
    have c1 := (Below.cell h3e (p := ⟨Z1, 0, none⟩) (World.block_lt_of_cell? _ _ C1.out)).trans C1.out
    have f1 := (Below.frozen h3e (p := ⟨Z1, 0, none⟩) (World.block_lt_of_cell? _ _ C1.out)).trans F1.out
    go_simp
    refine hK2 _ (w3.setCell ⟨Z1, 0, none⟩ (.slice none 0 0)) ((Grw.of_ext h3e).trans (Grw.of_touch ((Touch.refl _ w3).set 0 _) (.inl rfl))) ?_
    have C1' := hide c1
    have F1' := hide f1
    have H3 := hide h3e
    clear hK2 K2 c1 f1 h3e
    refine anyK_one 4 (by kernel_rfl) ?_
    refine stepK_run rfl ?_
    intro w5 h5e K2 hK2
    have c2 : w5.cell? ⟨Z2, 0, none⟩ = some u2 := (Below.cell h5e (p := ⟨Z2, 0, none⟩) (by have q1 : Z2 < W.heap.size := World.block_lt_of_cell? _ _ C2.out; have q2 : W.heap.size ≤ w3.heap.size := Below.size H3.out; simp [World.setCell]; omega)).trans ((World.cell?_of_block (a := ⟨Z2, 0, none⟩) (Below.heap_setCell _ _ _ _ (show Z2 ≠ Z1 from hne2))).trans ((Below.cell H3.out (p := ⟨Z2, 0, none⟩) (World.block_lt_of_cell? _ _ C2.out)).trans C2.out))
    have f2 : w5.frozen? ⟨Z2, 0, none⟩ = false := (Below.frozen h5e (p := ⟨Z2, 0, none⟩) (by have q1 : Z2 < W.heap.size := World.block_lt_of_cell? _ _ C2.out; have q2 : W.heap.size ≤ w3.heap.size := Below.size H3.out; simp [World.setCell]; omega)).trans ((World.frozen?_of_block (a := ⟨Z2, 0, none⟩) (Below.heap_setCell _ _ _ _ (show Z2 ≠ Z1 from hne2))).trans ((Below.frozen H3.out (p := ⟨Z2, 0, none⟩) (World.block_lt_of_cell? _ _ C2.out)).trans F2.out))
    go_simp
    refine hK2 _ (w5.setCell ⟨Z2, 0, none⟩ (.iface 77 (.agg #[.int .i64 5, .int .i64 tp]))) ((((Grw.of_ext H3.out).trans (Grw.of_touch ((Touch.refl _ w3).set 0 _) (.inl rfl))).trans (Grw.of_ext h5e)).trans (Grw.of_touch ((Touch.refl _ w5).set 0 _) (.inr rfl))) ?_
    have C2' := hide c2
    have H5 := hide h5e
    clear hK2 K2 c2 f2 h5e
    refine anyK_done (by kernel_rfl) ?_ 0
    intro w7 h7
    simp only [onlyN]
    have q1 : Z1 < W.heap.size := World.block_lt_of_cell? _ _ C1.out
    have q2 : Z2 < W.heap.size := World.block_lt_of_cell? _ _ C2.out
    have q3 : W.heap.size ≤ w3.heap.size := Below.size H3.out
    have q4 : w3.heap.size ≤ w5.heap.size := by have := Below.size H5.out; simpa [World.setCell] using this
    have q5 : w5.heap.size ≤ w7.heap.size := by have := Below.size h7; simpa [World.setCell] using this
    have b7 : ∀ k, k < W.heap.size → k ≠ Z2 → w7.heap[k]? = w5.heap[k]? := fun k k1 k2 => (Below.block h7 k (by simp [World.setCell]; omega)).trans (Below.heap_setCell _ _ _ _ (show k ≠ Z2 from k2))
    have b5 : ∀ k, k < W.heap.size → k ≠ Z1 → w5.heap[k]? = W.heap[k]? := fun k k1 k2 => (Below.block H5.out k (by simp [World.setCell]; omega)).trans ((Below.heap_setCell _ _ _ _ (show k ≠ Z1 from k2)).trans (Below.block H3.out k k1))
    obtain ⟨-, k2, k3, k4, k5⟩ := Fin.out (.slice none 0 0) (.iface 77 (.agg #[.int .i64 5, .int .i64 tp])) w7 (by omega) (h7.os.trans (H5.out.os.trans H3.out.os)) (h7.tape.trans (H5.out.tape.trans H3.out.tape)) (h7.output.trans (H5.out.output.trans H3.out.output)) (fun k k1 k2 k3 => (b7 k k1 k3).trans (b5 k k1 k2))
     ((World.cell?_of_block (a := ⟨Z1, 0, none⟩) (b7 Z1 q1 hne)).trans ((World.cell?_of_block (a := ⟨Z1, 0, none⟩) (Below.block H5.out Z1 (by simp [World.setCell]; omega))).trans (World.cell?_setCell_same _ _ _ C1'.out)))
     ((Below.cell h7 (p := ⟨Z2, 0, none⟩) (by simp [World.setCell]; omega)).trans (World.cell?_setCell_same _ _ _ C2'.out)) (.inl rfl)
    gi_wp2
    refine ⟨by simp, .inl ⟨_, _, rfl, run_takeDeferred (ds := []) k4, ?_⟩⟩
    refine ⟨_, results_2c Tryz.results47 rfl rfl k2 k3, ?_⟩
    exact ⟨_, _, rfl, k5, .inr (.inr (.inl ⟨Hc0.out, by rw [Hll.out]; exact h3, h5, by rw [Htp.out]; rfl⟩))⟩
   ·have h5' : ¬ ((Hs.foldl topF 0 : Nat) : Int) < (bn : Int) := by omega
    gi_wp2
    obtain ⟨k1, k2, k3, k4, k5⟩ := Fin2.out (.slice va L.length vcap) .nilIface (.inr rfl)
    refine ⟨by simp, .inl ⟨_, _, rfl, run_takeDeferred (ds := []) k4, ?_⟩⟩
    refine ⟨_, results_2c Tryz.results47 rfl rfl k2 k3, ?_⟩
    exact ⟨_, _, rfl, k5, .inr (.inr (.inr ⟨Hc0.out, by rw [Hll.out]; exact h3, h5, rfl, L, k1 rfl, Its.out⟩))⟩
 case stop =>
  rintro k O pre W hSp ⟨rfl, hX⟩ hOd hlt hD
  have z1 := HZ.out.1
  have z2 := HZ.out.2.1
  have c1 : (W.putObj V.heap.size (.deferred none)).cell? ⟨Z1, 0, none⟩ = some (.slice none 0 0) := (World.cell?_of_block (a := ⟨Z1, 0, none⟩) (World.putObj_heap_other (show Z1 ≠ V.heap.size by have := HVs.out; omega))).trans (by rw [← z1]; exact hX.c1)
  have c2 : (W.putObj V.heap.size (.deferred none)).cell? ⟨Z2, 0, none⟩ = some (fltV c p) := (World.cell?_of_block (a := ⟨Z2, 0, none⟩) (World.putObj_heap_other (show Z2 ≠ V.heap.size by have := HVs.out; omega))).trans (by rw [← z2]; exact hX.c2)
  have hE : Ext w (W.putObj V.heap.size (.deferred none)) := Below.trans hX.ext ((putObj_below V.heap.size _ V.heap.size _ (Nat.le_refl _)).mono (by have := HVs.out; omega))
  clear hseq z1 z2
  gi_wp2
  refine ⟨by simp, .inl ⟨_, _, rfl, run_takeDeferred (ds := []) hD, ?_⟩⟩
  refine ⟨_, results_2c Tryz.results47 rfl rfl (ld_items _ _ _ c1) (ld_error _ _ _ c2), ?_⟩
  exact ⟨_, _, rfl, hE, .inl ⟨hX.cn, rfl⟩⟩
end Go.Proofs.YtkogbinfhoiggaaGreatDoor
