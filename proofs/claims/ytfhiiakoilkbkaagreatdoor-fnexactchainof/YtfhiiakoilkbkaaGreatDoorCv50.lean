/- Walks: the model's certificate that shares no list (written by mkcmg.py). Walks: the model's ChainOf. -/
import Derived.Test.YtfhiiakoilkbkaaGreatDoorCv49
namespace Go.Proofs.YtfhiiakoilkbkaaGreatDoor
set_option linter.unusedVariables false
set_option linter.unusedSimpArgs false
section
open Go.RowKit
theorem owns_extE {w w' : World} {B e size n : Nat} {v : Value} {xs : List Value} (ho : w.ownsRow B e size v n xs) (h : Ext w w') : w'.ownsRow B e size v n xs := by
 refine ⟨ho.1, ?_⟩
 rcases ho.2 with h0 | ⟨g, cap, cur, rfl, hb, hg, rest⟩
 ·exact .inl h0
 ·exact .inr ⟨g, cap, cur, rfl, hb, (Below.block h g (Array.getElem?_eq_some_iff.1 hg).1).trans hg, rest⟩
structure Stm (w V wr : World) (la lo : List Value) (S : World → Prop) (z : Nat) : Prop where
 mg : Mkg w wr la zC lo
 inn : ∀ w'', z ≤ w''.heap.size → (∀ b, V.heap.size ≤ b → b < z → w''.heap[b]? = wr.heap[b]?) → S w''
 zl : V.heap.size ≤ z
 zh : z ≤ wr.heap.size
 nv : w.heap.size + 1 + 1 < V.heap.size
theorem Stm.ext {w V wr W : World} {la lo : List Value} {S : World → Prop} {z : Nat} (h : Stm w V wr la lo S z) (e : Ext wr W) : Stm w V W la lo S z :=
 ⟨h.mg.later e, fun w'' k2 k3 => h.inn w'' k2 (fun b h1 h2 => (k3 b h1 h2).trans (Below.block e b (Nat.lt_of_lt_of_le h2 h.zh))), h.zl, Nat.le_trans h.zh (Below.size e), h.nv⟩
theorem Stm.grown {w V wr W : World} {la lo : List Value} {S : World → Prop} {z : Nat} {ob : Option Nat} (h : Stm w V wr la lo S z) (g : wr.grownBy W ob) (ho : ∀ k, ob = some k → z ≤ k) : Stm w V W la lo S z := by
 have zl := h.zl
 have nv := h.nv
 have zh := h.zh
 have hb : ∀ b, b < z → W.heap[b]? = wr.heap[b]? := fun b hb => g.block b (by omega) (fun e => by have := ho b e.symm; omega)
 exact ⟨⟨h.mg.ext.grown g (Below.size h.mg.ext) (fun k hk => by have := ho k hk; omega), Blk.ofH h.mg.a (hb _ (by omega)), Blk.ofH h.mg.d (hb _ (by omega)), Blk.ofH h.mg.o (hb _ (by omega)), Nat.lt_of_lt_of_le h.mg.lt g.size⟩, fun w'' k2 k3 => h.inn w'' k2 (fun b h1 h2 => (k3 b h1 h2).trans (hb b h2)), h.zl, Nat.le_trans h.zh g.size, h.nv⟩
theorem Stm.put {w V wr : World} {la lo : List Value} {S : World → Prop} {z : Nat} (h : Stm w V wr la lo S z) (i : Nat) (hi : i < lo.length) (v : Value) (l2 : List Value) (hl : lo.set i v = l2) {T : World → Prop} (hT : ∀ w'', Kp V.heap.size wr w'' → T w'') : Stm w V (wr.setCell ⟨w.heap.size + 1 + 1, i, none⟩ v) la l2 (fun w'' => S w'' ∧ T w'') wr.heap.size := by
 have nv := h.nv
 have e : ∀ b, V.heap.size ≤ b → (wr.setCell ⟨w.heap.size + 1 + 1, i, none⟩ v).heap[b]? = wr.heap[b]? := fun b hb => Below.heap_setCell _ _ _ _ (show b ≠ w.heap.size + 1 + 1 by omega)
 refine ⟨hl ▸ h.mg.set i v hi, fun w'' k2 k3 => ?_, Nat.le_trans h.zl h.zh, by simp [World.setCell], h.nv⟩
 have k4 : ∀ b, V.heap.size ≤ b → b < wr.heap.size → w''.heap[b]? = wr.heap[b]? := fun b h1 h2 => (k3 b h1 h2).trans (e b h1)
 exact ⟨h.inn w'' (Nat.le_trans h.zh k2) (fun b h1 h2 => k4 b h1 (Nat.lt_of_lt_of_le h2 h.zh)), hT w'' ⟨k2, k4⟩⟩
def netz (r : Nat → Plc) (ln : Nat → Nat) (n : Nat) : List Value := (List.range n).map (fun i => .slice (r i).ad (ln i) (r i).cap)
theorem netz_succ (r : Nat → Plc) (ln : Nat → Nat) (n : Nat) : netz r ln (n + 1) = netz r ln n ++ [.slice (r n).ad (ln n) (r n).cap] := by simp [netz, List.range_succ]
theorem netz_congr {r r' : Nat → Plc} {ln : Nat → Nat} {n : Nat} (h : ∀ i, i < n → r i = r' i) : netz r ln n = netz r' ln n := by
 unfold netz
 exact List.map_congr_left (fun i hi => by rw [h i (List.mem_range.1 hi)])
theorem wp_appNet {o : Oper} {a0 : Act} {K : Act → World → Prop} {Q : Exit → Act → World → Prop} {w : World} (s x : Operand)
  (ho : o.op = .call { callee := .builtin .append, args := #[s, x], argTypes := #[34, 34] })
  (base : Nat) (v : Value) (n : Nat) (xs : List Value) (hs : a0.eval s = v) (hown : w.ownsRow base 23 1 v n xs)
  (b : Nat) (u : Value) (hx : a0.eval x = .slice (some ⟨b, 0, none⟩) 1 1) (hb : w.cell? ⟨b, 0, none⟩ = some u) (hu : u.oneCell' = true) (hlen : n ≤ 1048576) (hbase : base ≤ w.heap.size)
  (h : ∀ v' w', w'.ownsRow base 23 1 v' (n + 1) (xs ++ [u]) → w.grownBy w' v.ownBlock → (v'.ownBlock = v.ownBlock ∨ v'.ownBlock = some w.heap.size) → K (a0.put o.dst v') w') : o.wp Tryz.prog a0 w K Q := by
 obtain ⟨i0, hi, hz0, hz1, hz2⟩ := info_parts Tryz.infoIS
 obtain ⟨v', w', hr, h2, h3, -, h5⟩ := run_append_own_at (P := Tryz.prog) w base 34 o.type 23 i0 (.slice none 0 0) 1 24 Tryz.underlying34 hi hz0 hz1 hz2 rfl (by decide) v n xs hown ⟨b, 0, none⟩ 1 1 [u] rfl (by
  intro j y hj
  match j, hj with
  | 0, hj => simp at hj; subst hj; simpa [Addr.add] using hb) (fun y hy => by simp at hy; subst hy; exact hu) (by unfold maxLen; omega) (by omega) hbase
 unfold Oper.wp execOp
 simp only [ho, resolve, invoke, builtin, Sem.run_bind, Sem.run_pure, Result.andThen_ok, List.map_toArray, List.map_cons, List.map_nil, hs, hx, hr]
 exact h v' w' h2 h3 h5
structure Nrw (wr : World) (z : Nat) (v : Value) (j : Nat) (r : Nat → Plc) (ln : Nat → Nat) (f : Nat → Nat → Int) : Prop where
 own : wr.ownsRow z 23 1 v j (netz r ln j)
 row : ∀ i, i < j → Seg wr (r i).ad (r i).b (r i).off (ln i) (f i)
 blk : ∀ i, i < j → 0 < ln i → z ≤ (r i).b ∧ v.ownBlock ≠ some (r i).b
theorem Nrw.step {wr w1 U w4 : World} {z j : Nat} {v v' : Value} {r : Nat → Plc} {ln : Nat → Nat} {f : Nat → Nat → Int} {q : Plc} (h : Nrw wr z v j r ln f) (hz : z ≤ wr.heap.size) (hE : Ext wr w1) (hc : CpIs wr w1 (ln j) (f j) q) (hU : Ext w1 U) (hown : w4.ownsRow z 23 1 v' (j + 1) (netz r ln j ++ [.slice q.ad (ln j) q.cap])) (hg : U.grownBy w4 v.ownBlock) (hor : v'.ownBlock = v.ownBlock ∨ v'.ownBlock = some U.heap.size) : Nrw w4 z v' (j + 1) (fun i => if i = j then q else r i) ln f := by
 have s1 := Below.size hE
 have s2 := Below.size hU
 have ol := h.own.lt
 obtain ⟨hq, hqb⟩ := hc w1 (Kp.refl _ _)
 have seg4 : ∀ {a : Option Addr} {b off n : Nat} {g : Nat → Int}, Seg U a b off n g → (0 < n → v.ownBlock ≠ some b) → Seg w4 a b off n g := fun hs hn => ⟨hs.at', fun i hi => (World.cell?_of_block (a := ⟨_, _ + i, none⟩) (hg.block _ (World.block_lt_of_cell? _ _ (hs.cell i hi)) (fun e => hn (by omega) e.symm))).trans (hs.cell i hi)⟩
 have nb : ∀ b, b < U.heap.size → v.ownBlock ≠ some b → v'.ownBlock ≠ some b := fun b hb h1 e => by
  rcases hor with h2 | h2
  ·exact h1 (h2 ▸ e)
  ·rw [h2] at e; have := Option.some.inj e; omega
 have qn : 0 < ln j → v.ownBlock ≠ some q.b := fun h0 e => by have := ol _ e; have := hqb h0; omega
 refine ⟨?_, fun i hi => ?_, fun i hi h0 => ?_⟩
 ·rw [netz_succ, netz_congr (r' := r) (fun i hi => if_neg (by omega))]
  simpa using hown
 ·by_cases e : i = j
  ·subst e
   simp only [if_true]
   exact seg4 (hq.toSeg.of_all hU) qn
  ·simp only [e, if_false]
   exact seg4 ((h.row i (by omega)).of_all (hE.trans hU)) (fun h0 => (h.blk i (by omega) h0).2)
 ·by_cases e : i = j
  ·subst e
   simp only [if_true]
   have := hqb h0
   exact ⟨by omega, nb _ (by omega) (qn h0)⟩
  ·simp only [e, if_false]
   obtain ⟨h1, h2⟩ := h.blk i (by omega) h0
   exact ⟨h1, nb _ (by have := (h.row i (by omega)).lt h0; omega) h2⟩
theorem wpList_appNet {ops : Array Oper} {rest : List Oper} {o : Oper} {a0 : Act} {Q : Exit → Act → World → Prop} {w : World} (hgd : o.guard = none) (s x : Operand)
  (ho : o.op = .call { callee := .builtin .append, args := #[s, x], argTypes := #[34, 34] })
  (base : Nat) (v : Value) (n : Nat) (xs : List Value) (hs : a0.eval s = v) (hown : w.ownsRow base 23 1 v n xs)
  (b : Nat) (u : Value) (hx : a0.eval x = .slice (some ⟨b, 0, none⟩) 1 1) (hb : w.cell? ⟨b, 0, none⟩ = some u) (hu : u.oneCell' = true) (hlen : n ≤ 1048576) (hbase : base ≤ w.heap.size)
  (h : ∀ v' w', w'.ownsRow base 23 1 v' (n + 1) (xs ++ [u]) → w.grownBy w' v.ownBlock → (v'.ownBlock = v.ownBlock ∨ v'.ownBlock = some w.heap.size) → wpList Tryz.prog ops Q rest (a0.put o.dst v') w') : wpList Tryz.prog ops Q (o :: rest) a0 w :=
 wpList_plain hgd fun K hK => wp_appNet s x ho base v n xs hs hown b u hx hb hu hlen hbase fun v' w' h1 h2 h3 => hK _ _ (h v' w' h1 h2 h3)
theorem nseg_of {w : World} {base : Nat} {v : Value} {n : Nat} {r : Nat → Plc} {ln : Nat → Nat} {f : Nat → Nat → Int} (h : w.ownsRow base 23 1 v n (netz r ln n)) (hr : ∀ i, i < n → Seg w (r i).ad (r i).b (r i).off (ln i) (f i)) : ∃ p : Plc, v = .slice p.ad n p.cap ∧ (0 < n → base ≤ p.b) ∧ NSeg w p r n ln f := by
 have h' := h
 rcases h.2 with ⟨rfl, h0⟩ | ⟨g, cap, cur, rfl, hg, hb, hn, hm, hs, ht⟩
 ·subst h0
  exact ⟨⟨none, 0, 0, 0⟩, rfl, fun h => absurd h (Nat.lt_irrefl _), fun h => absurd h (Nat.lt_irrefl _), fun i h => absurd h (Nat.not_lt_zero _), hr⟩
 ·refine ⟨⟨some ⟨g, 0, none⟩, g, 0, cap⟩, rfl, fun _ => hg, fun _ => rfl, fun i hi => ?_, hr⟩
  show w.cell? ⟨g, 0 + i, none⟩ = _
  rw [Nat.zero_add, World.ownsRow.cellAt h' i (by simpa using hi)]
  simp [netz, hi]
theorem NSeg.blk {w w' : World} {p : Plc} {q : Nat → Plc} {n : Nat} {ln : Nat → Nat} {f : Nat → Nat → Int} (h : NSeg w p q n ln f) (e : 0 < n → w'.heap[p.b]? = w.heap[p.b]?) (er : ∀ i, i < n → 0 < ln i → w'.heap[(q i).b]? = w.heap[(q i).b]?) : NSeg w' p q n ln f :=
 ⟨h.at', fun i hi => (World.cell?_of_block (a := ⟨p.b, p.off + i, none⟩) (e (by omega))).trans (h.cell i hi), fun i hi => ⟨(h.row i hi).at', fun j hj => (World.cell?_of_block (a := ⟨(q i).b, (q i).off + j, none⟩) (er i hi (by omega))).trans ((h.row i hi).cell j hj)⟩⟩
set_option maxHeartbeats 12800000 in
set_option maxRecDepth 100000 in
theorem l12Own_any (c : Ct) (m : CtPl) (w : World) (hI : CtIn w c m) (hS : CtSm c 1048576) :
  Calls Tryz.prog 25 #[.agg (ctL c m).toArray] w fun e w' => ∃ q : CtPl, e = .returned (.agg (ctL c q).toArray) ∧ (∀ w'', Kp w.heap.size w' w'' → CtIn w'' c q) ∧ Ext w w' := by
 obtain ⟨U, hU⟩ : ∃ U, (w.alloc (.cells (ctL c m).toArray 54)).alloc (.cells #[.int .i64 0, .slice none 0 0, .slice none 0 0, .int .i64 0, .int .i64 0, .int .i64 0, .slice none 0 0, .int .i64 0, .int .i64 0, .int .i64 0, .int .i64 0, .int .i64 0, .int .i64 0, .int .i64 0, .int .i64 0, .int .i64 0, .bool false, .int .i64 0, .int .i64 0, .int .i64 0, .int .i64 0, .int .i64 0, .int .i64 0, .int .i64 0, .int .i64 0, .bool false, .int .i64 0, .int .i64 0, .slice none 0 0, .slice none 0 0, .slice none 0 0, .slice none 0 0, .slice none 0 0, .slice none 0 0] 54) = U := ⟨_, rfl⟩
 obtain ⟨V, hV⟩ : ∃ V, U.alloc (.cells #[.int .i64 0, .slice none 0 0, .slice none 0 0, .int .i64 0, .int .i64 0, .int .i64 0, .slice none 0 0, .int .i64 0, .int .i64 0, .int .i64 0, .int .i64 0, .int .i64 0, .int .i64 0, .int .i64 0, .int .i64 0, .int .i64 0, .bool false, .int .i64 0, .int .i64 0, .int .i64 0, .int .i64 0, .int .i64 0, .int .i64 0, .int .i64 0, .int .i64 0, .bool false, .int .i64 0, .int .i64 0, .slice none 0 0, .slice none 0 0, .slice none 0 0, .slice none 0 0, .slice none 0 0, .slice none 0 0] 54) = V := ⟨_, rfl⟩
 have hM0 := mkg_start w (ctL c m) zC zC 54 54 54 (V := V) (by rw [← hV, ← hU]; rfl)
 have hUs : U.heap.size = w.heap.size + 1 + 1 := by rw [← hU]; simp
 obtain ⟨B0, hBU, -⟩ := box1 w (ctL c m) 54 (w1 := U) (by rw [← hU]; exact Ext.alloc _ _)
 have hld := run_ld (P := Tryz.prog) 54 (ctL c m) U (by kernel_rfl) (by kernel_rfl) w.heap.size 0 (Blk.ld B0 0 _ (fun j v h => by rw [Nat.zero_add]; exact h))
 have hst := run_st (P := Tryz.prog) 54 (ctL c m) V (by kernel_rfl) (by simp [ctL, kyL, exL, Value.oneCell']) (w.heap.size + 1 + 1) 0 (Blk.st hM0.o 0 _ (by simp [ctL, kyL, exL, zC]))
 have hM1 := hM0.put 0 (ctL c m) (by simp [ctL, kyL, exL, zC])
 obtain ⟨X, hX⟩ : ∃ X, putL (w.heap.size + 1 + 1) 0 (ctL c m) V = X := ⟨_, rfl⟩
 have hXs : X.heap.size = V.heap.size := by rw [← hX, size_putL]
 rw [hX] at hst hM1
 have HS0 : Hid (Stm w V X (ctL c m) (ctL c m) (fun _ => True) V.heap.size) := hide ⟨hM1, fun _ _ _ => trivial, Nat.le_refl _, by rw [hXs]; exact Nat.le_refl _, hM0.lt⟩
 have HI := hide hI
 have HS := hide hS
 clear hI hS hM0 hM1 hX hXs B0 hBU
 rw [show w.heap.size + 1 + 1 = U.heap.size from hUs.symm] at hst
 obtain ⟨L, hL⟩ : ∃ L, ctL c m = L := ⟨_, rfl⟩
 rw [hL] at hld hst hU ⊢
 have HU := hide hUs
 have HL := hide hL
 clear hL hUs
 go_enter Tryz.func25, Tryz.ntmps25
 go_upto_region 2 with (first | (refine wpList_ld (by first | rfl | simp [Region.wanted, yielded]) 54 _ rfl _ rfl _ hld ?_) | (refine wpList_st (by first | rfl | simp [Region.wanted, yielded]) 54 _ _ rfl _ rfl _ rfl _ hst ?_))
 clear hld hst hV hU
 simp only [HU.out]
 have ca := (HS0.out.mg.a 1 _ rfl).1
 go_wp2_with fail
 refine (l12Texts_any m.i c.ni c.fi _ (HI.out.i.of_all HS0.out.mg.ext) HS.out.i).mono ?_
 rintro e w0 ⟨q0, rfl, hc, hE⟩
 skip
 have hs := HS0.out.ext hE
 have hz := Below.size HS0.out.mg.ext
 have HS1 := hide (hs.put 1 (by simp [ctL, kyL, exL]) (.slice q0.ad c.ni q0.cap) (ctL c ⟨q0, m.s, m.k, ⟨m.x.h, m.x.n, m.x.ni, m.x.a, m.x.d, m.x.p⟩, m.g⟩) rfl (fun w'' k => (hc w'' (k.mono (Nat.le_trans HS0.out.zl HS0.out.zh))).1.1))
 have co := (hs.mg.o 1 _ rfl).1
 have cf := (hs.mg.o 1 _ rfl).2
 have cb := (hs.mg.a 2 _ rfl).1
 clear hc hE hs hz HS0 ca
 have ca := cb
 clear cb
 go_wp2_with fail
 refine (l12Texts_any m.s c.ns c.fs _ (HI.out.s.of_all HS1.out.mg.ext) HS.out.s).mono ?_
 rintro e w1 ⟨q1, rfl, hc, hE⟩
 clear co cf
 have hs := HS1.out.ext hE
 have hz := Below.size HS1.out.mg.ext
 have HS2 := hide (hs.put 2 (by simp [ctL, kyL, exL]) (.slice q1.ad c.ns q1.cap) (ctL c ⟨q0, q1, m.k, ⟨m.x.h, m.x.n, m.x.ni, m.x.a, m.x.d, m.x.p⟩, m.g⟩) rfl (fun w'' k => (hc w'' (k.mono (Nat.le_trans HS1.out.zl HS1.out.zh))).1.1))
 have co := (hs.mg.o 2 _ rfl).1
 have cf := (hs.mg.o 2 _ rfl).2
 have cb := (hs.mg.a 6 _ rfl).1
 clear hc hE hs hz HS1 ca
 have ca := cb
 clear cb
 go_wp2_with fail
 refine (l12Ints_any m.k c.k.n c.k.f _ (HI.out.k.of_all HS2.out.mg.ext) HS.out.k).mono ?_
 rintro e w2 ⟨q2, rfl, hc, hE⟩
 clear co cf
 have hs := HS2.out.ext hE
 have hz := Below.size HS2.out.mg.ext
 have HS3 := hide (hs.put 6 (by simp [ctL, kyL, exL]) (.slice q2.ad c.k.n q2.cap) (ctL c ⟨q0, q1, q2, ⟨m.x.h, m.x.n, m.x.ni, m.x.a, m.x.d, m.x.p⟩, m.g⟩) rfl (fun w'' k => (hc w'' (k.mono (Nat.le_trans HS2.out.zl HS2.out.zh))).1.toSeg))
 have co := (hs.mg.o 6 _ rfl).1
 have cf := (hs.mg.o 6 _ rfl).2
 have cb := (hs.mg.a 28 _ rfl).1
 clear hc hE hs hz HS2 ca
 have ca := cb
 clear cb
 go_wp2_with fail
 refine (l12Texts_any m.x.h c.x.nh c.x.fh _ (HI.out.x.h.of_all HS3.out.mg.ext) HS.out.x.h).mono ?_
 rintro e w3 ⟨q3, rfl, hc, hE⟩
 clear co cf
 have hs := HS3.out.ext hE
 have hz := Below.size HS3.out.mg.ext
 have HS4 := hide (hs.put 28 (by simp [ctL, kyL, exL]) (.slice q3.ad c.x.nh q3.cap) (ctL c ⟨q0, q1, q2, ⟨q3, m.x.n, m.x.ni, m.x.a, m.x.d, m.x.p⟩, m.g⟩) rfl (fun w'' k => (hc w'' (k.mono (Nat.le_trans HS3.out.zl HS3.out.zh))).1.1))
 have co := (hs.mg.o 28 _ rfl).1
 have cf := (hs.mg.o 28 _ rfl).2
 clear hc hE hs hz HS3 ca
 have hnb : c.x.nn ≤ 1048576 := HS.out.x.n
 have hb0 : w3.heap.size ≤ (w3.setCell ⟨w.heap.size + 1 + 1, 28, none⟩ (.slice q3.ad c.x.nh q3.cap)).heap.size := by simp [World.setCell]
 obtain ⟨S, hSS, hSt⟩ : ∃ S : World → Prop, (∀ w'', S w'' → SSeg w'' q0.ad q0.b q0.off c.ni c.fi ∧ SSeg w'' q1.ad q1.b q1.off c.ns c.fs ∧ Seg w'' q2.ad q2.b q2.off c.k.n c.k.f ∧ SSeg w'' q3.ad q3.b q3.off c.x.nh c.x.fh) ∧ Stm w V (w3.setCell ⟨w.heap.size + 1 + 1, 28, none⟩ (.slice q3.ad c.x.nh q3.cap)) (ctL c m) (ctL c ⟨q0, q1, q2, ⟨q3, m.x.n, m.x.ni, m.x.a, m.x.d, m.x.p⟩, m.g⟩) S w3.heap.size := ⟨_, fun w'' h => ⟨h.1.1.1.2, h.1.1.2, h.1.2, h.2⟩, HS4.out⟩
 have HSS := hide hSS
 have h0 := World.ownsRow_made (base := w3.heap.size) (e := 23) (size := 1) (w3.setCell ⟨w.heap.size + 1 + 1, 28, none⟩ (.slice q3.ad c.x.nh q3.cap)) #[] 0 hb0 (by simp) rfl
 rw [show (w3.setCell ⟨w.heap.size + 1 + 1, 28, none⟩ (.slice q3.ad c.x.nh q3.cap)).heap.size = w3.heap.size by simp [World.setCell]] at h0
 have H0 := hide h0
 have HS5 := hide (hSt.ext (Ext.alloc _ (.cells #[] 23)))
 clear h0 hb0
 clear HS4 hSt hSS
 go_wp2
 clear co cf
 go_loopw [4, 5] (fun v k wr => ∃ (j : Nat) (r : Nat → Plc), j ≤ c.x.nn ∧ k = .int .i64 (j : Int) ∧ Nrw wr w3.heap.size v j r c.x.ln c.x.fn ∧ Stm w V wr (ctL c m) (ctL c ⟨q0, q1, q2, ⟨q3, m.x.n, m.x.ni, m.x.a, m.x.d, m.x.p⟩, m.g⟩) S w3.heap.size) (fun _ k _ => c.x.nn - (intOf k).toNat)
 case atStart => exact ⟨0, m.x.ni, Nat.zero_le _, rfl, ⟨H0.out, fun i hi => absurd hi (Nat.not_lt_zero _), fun i hi => absurd hi (Nat.not_lt_zero _)⟩, HS5.out⟩
 case round =>
  clear H0 HS5
  obtain ⟨j, r, hj, rfl, hN, hT⟩ := hrel
  have HN := hide hN
  have HT := hide hT
  clear hN hT
  have ca := (HT.out.mg.a 29 _ rfl).1
  by_cases hlt : j < c.x.nn
  ·have hat := HI.out.x.n.at' (by omega)
   rw [hat] at ca
   have c1 := (HI.out.x.n.of_all HT.out.mg.ext).cell j hlt
   have hjn : (j : Int) < (c.x.nn : Int) := by omega
   have HC := hide (l12Ints_any (m.x.ni j) (c.x.ln j) (c.x.fn j) wr ((HI.out.x.n.row j hlt).of_all HT.out.mg.ext) (HS.out.x.ns j hlt))
   go_wp2_with fail
   refine HC.out.mono ?_
   rintro e w4 ⟨q4, rfl, hc, hE⟩
   have hz := HT.out.zh
   have Ho := hide (World.ownsRow.alloc (owns_extE HN.out.own hE) (.cells #[.slice q4.ad (c.x.ln j) q4.cap] 23))
   have Hl := hide (show w3.heap.size ≤ (w4.alloc (.cells #[.slice q4.ad (c.x.ln j) q4.cap] 23)).heap.size ∧ j ≤ 1048576 by have := Below.size hE; have := HS.out.x.n; simp; omega)
   have Hc := hide hc
   have HE := hide hE
   clear hc hE HC ca c1 hz
   go_wp2_with (at_builtin; refine wpList_appNet rfl _ _ rfl w3.heap.size _ j (netz r c.x.ln j) rfl Ho.out w4.heap.size (.slice q4.ad (c.x.ln j) q4.cap) rfl ((World.cell?_alloc_at _ _ _ _ rfl).trans rfl) rfl Hl.out.2 Hl.out.1 ?_; intro v' w5 hown hgrow hor)
   have HN2 := hide (HN.out.step HT.out.zh HE.out Hc.out (Ext.alloc _ _) hown hgrow hor)
   have HT2 := hide (((HT.out.ext HE.out).ext (Ext.alloc _ _)).grown hgrow (fun k hk => (HN.out.own.lt k hk).1))
   clear hown hgrow hor Ho Hl Hc HE HN HT
   go_wp2
   try rw [← hat]
   go_roundw
   case rel => exact ⟨j + 1, _, by omega, by go_num, HN2.out, HT2.out⟩
   case measure => simp [intOf]; omega
  ·obtain rfl : j = c.x.nn := by omega
   obtain ⟨p, hv, hpz, hnn⟩ := nseg_of HN.out.own HN.out.row
   subst hv
   have hzV := HT.out.zl
   have HS6 := hide (HT.out.put 29 (by simp [ctL, kyL, exL]) (.slice p.ad c.x.nn p.cap) (ctL c ⟨q0, q1, q2, ⟨q3, p, r, m.x.a, m.x.d, m.x.p⟩, m.g⟩) rfl (fun w'' k => hnn.blk (fun h0 => k.2 _ (Nat.le_trans hzV (hpz h0)) (World.block_lt_of_cell? _ _ (hnn.cell 0 h0))) (fun i hi h0 => k.2 _ (Nat.le_trans hzV (HN.out.blk i hi h0).1) (World.block_lt_of_cell? _ _ ((hnn.row i hi).cell 0 h0)))))
   have co := (HT.out.mg.o 29 _ rfl).1
   have cf := (HT.out.mg.o 29 _ rfl).2
   have cb := (HT.out.mg.a 30 _ rfl).1
   clear hnn hpz hzV HN HT
   have ce := ca
   clear ca
   have ca := cb
   clear cb
   go_wp2_with fail
   refine (l12Texts_any m.x.a c.x.na c.x.fa _ (HI.out.x.a.of_all HS6.out.mg.ext) HS.out.x.a).mono ?_
   rintro e w6 ⟨q6, rfl, hc, hE⟩
   clear co cf
   have hs := HS6.out.ext hE
   have hz := Below.size HS6.out.mg.ext
   have HS7 := hide (hs.put 30 (by simp [ctL, kyL, exL]) (.slice q6.ad c.x.na q6.cap) (ctL c ⟨q0, q1, q2, ⟨q3, p, r, q6, m.x.d, m.x.p⟩, m.g⟩) rfl (fun w'' k => (hc w'' (k.mono (Nat.le_trans HS6.out.zl HS6.out.zh))).1.1))
   have co := (hs.mg.o 30 _ rfl).1
   have cf := (hs.mg.o 30 _ rfl).2
   have cb := (hs.mg.a 31 _ rfl).1
   clear hc hE hs hz HS6 ca
   have ca := cb
   clear cb
   go_wp2_with fail
   refine (l12Texts_any m.x.d c.x.nd c.x.fd _ (HI.out.x.d.of_all HS7.out.mg.ext) HS.out.x.d).mono ?_
   rintro e w7 ⟨q7, rfl, hc, hE⟩
   clear co cf
   have hs := HS7.out.ext hE
   have hz := Below.size HS7.out.mg.ext
   have HS8 := hide (hs.put 31 (by simp [ctL, kyL, exL]) (.slice q7.ad c.x.nd q7.cap) (ctL c ⟨q0, q1, q2, ⟨q3, p, r, q6, q7, m.x.p⟩, m.g⟩) rfl (fun w'' k => (hc w'' (k.mono (Nat.le_trans HS7.out.zl HS7.out.zh))).1.1))
   have co := (hs.mg.o 31 _ rfl).1
   have cf := (hs.mg.o 31 _ rfl).2
   have cb := (hs.mg.a 32 _ rfl).1
   clear hc hE hs hz HS7 ca
   have ca := cb
   clear cb
   go_wp2_with fail
   refine (l12Ints_any m.x.p c.x.np c.x.fp _ (HI.out.x.p.of_all HS8.out.mg.ext) HS.out.x.p).mono ?_
   rintro e w8 ⟨q8, rfl, hc, hE⟩
   clear co cf
   have hs := HS8.out.ext hE
   have hz := Below.size HS8.out.mg.ext
   have HS9 := hide (hs.put 32 (by simp [ctL, kyL, exL]) (.slice q8.ad c.x.np q8.cap) (ctL c ⟨q0, q1, q2, ⟨q3, p, r, q6, q7, q8⟩, m.g⟩) rfl (fun w'' k => (hc w'' (k.mono (Nat.le_trans HS8.out.zl HS8.out.zh))).1.toSeg))
   have co := (hs.mg.o 32 _ rfl).1
   have cf := (hs.mg.o 32 _ rfl).2
   clear hc hE hs hz HS8 ca
   have hgb : c.ng ≤ 1048576 := HS.out.g
   have hb0 : w8.heap.size ≤ (w8.setCell ⟨w.heap.size + 1 + 1, 32, none⟩ (.slice q8.ad c.x.np q8.cap)).heap.size := by simp [World.setCell]
   obtain ⟨S2, hSS, hSt⟩ : ∃ S2 : World → Prop, (∀ w'', S2 w'' → S w'' ∧ NSeg w'' p r c.x.nn c.x.ln c.x.fn ∧ SSeg w'' q6.ad q6.b q6.off c.x.na c.x.fa ∧ SSeg w'' q7.ad q7.b q7.off c.x.nd c.x.fd ∧ Seg w'' q8.ad q8.b q8.off c.x.np c.x.fp) ∧ Stm w V (w8.setCell ⟨w.heap.size + 1 + 1, 32, none⟩ (.slice q8.ad c.x.np q8.cap)) (ctL c m) (ctL c ⟨q0, q1, q2, ⟨q3, p, r, q6, q7, q8⟩, m.g⟩) S2 w8.heap.size := ⟨_, fun w'' h => ⟨h.1.1.1.1, h.1.1.1.2, h.1.1.2, h.1.2, h.2⟩, HS9.out⟩
   have HSS2 := hide hSS
   have h0 := World.ownsRow_made (base := w8.heap.size) (e := 5) (size := 1) (w8.setCell ⟨w.heap.size + 1 + 1, 32, none⟩ (.slice q8.ad c.x.np q8.cap)) #[] 0 hb0 (by simp) rfl
   rw [show (w8.setCell ⟨w.heap.size + 1 + 1, 32, none⟩ (.slice q8.ad c.x.np q8.cap)).heap.size = w8.heap.size by simp [World.setCell]] at h0
   have H0 := hide h0
   have HS10 := hide (hSt.ext (Ext.alloc _ (.cells #[] 5)))
   clear h0 hb0
   clear HS9 hSt hSS
   obtain ⟨i0, hi0, hz0, hz1, hz2⟩ := info_parts Tryz.info5
   go_wp2
   clear co cf
   go_loopw [6, 7] (fun v k wr => ∃ j : Nat, j ≤ c.ng ∧ k = .int .i64 (j : Int) ∧ wr.ownsRow w8.heap.size 5 1 v j (byts c.fg j) ∧ Stm w V wr (ctL c m) (ctL c ⟨q0, q1, q2, ⟨q3, p, r, q6, q7, q8⟩, m.g⟩) S2 w8.heap.size) (fun _ k _ => c.ng - (intOf k).toNat)
   case atStart => exact ⟨0, Nat.zero_le _, rfl, H0.out, HS10.out⟩
   case round =>
    clear H0 HS10
    obtain ⟨j, hj, rfl, hO, hT⟩ := hrel
    have HO := hide hO
    have HT := hide hT
    clear hO hT
    have ca := (HT.out.mg.a 33 _ rfl).1
    by_cases hlt : j < c.ng
    ·have hat := HI.out.g.at' (by omega)
     rw [hat] at ca
     have c1 := (HI.out.g.of_all HT.out.mg.ext).cell j hlt
     have hjn : (j : Int) < (c.ng : Int) := by omega
     have HX := hide (byts_succ c.fg j)
     have Hl := hide (show w8.heap.size ≤ wr.heap.size ∧ j ≤ 1048576 from ⟨HT.out.zh, by have := HS.out.g; omega⟩)
     obtain ⟨s, hse⟩ : ∃ s, c.fg j = s := ⟨_, rfl⟩
     rw [hse] at HX c1
     obtain ⟨xs, hxs⟩ : ∃ xs, byts c.fg j = xs := ⟨_, rfl⟩
     rw [hxs] at HX HO
     clear hse hxs
     go_wp2_with (at_builtin; refine wpList_append_own _ rfl _ _ 37 rfl w8.heap.size 5 i0 (.int .u8 0) 1 1 Tryz.underlying37 hi0 hz0 hz1 hz2 rfl (by decide) _ _ _ rfl (HO.out.alloc _) ⟨wr.heap.size, 0, none⟩ 1 1 [.int .u8 s] rfl rfl (cell_one_new _ _ _) (fun u hu => by simp at hu; subst hu; rfl) (by have := Hl.out.2; unfold maxLen; omega) (by have := Hl.out.2; omega) (by have := Hl.out.1; simp; omega) ?_; intro v' w9 hown' hgrow hnil)
     have HN : Hid (w9.ownsRow w8.heap.size 5 1 v' (j + 1) (byts c.fg (j + 1)) ∧ Stm w V w9 (ctL c m) (ctL c ⟨q0, q1, q2, ⟨q3, p, r, q6, q7, q8⟩, m.g⟩) S2 w8.heap.size) := hide ⟨by rw [HX.out]; exact hown', (HT.out.ext (Ext.alloc _ _)).grown hgrow (fun k hk => (HO.out.lt k hk).1)⟩
     clear hown' hgrow hnil HO HT ca c1 Hl
     go_wp2
     try rw [← hat]
     go_roundw
     case rel => exact ⟨j + 1, by omega, by go_num, HN.out.1, HN.out.2⟩
     case measure => simp [intOf]; omega
    ·obtain rfl : j = c.ng := by omega
     obtain ⟨a9, g9, cap9, hv, hg9, -, -, hB9⟩ := owns_seg HO.out
     subst hv
     have hzV := HT.out.zl
     have HF0 := HT.out.put 33 (by simp [ctL, kyL, exL]) (.slice a9 c.ng cap9) (ctL c ⟨q0, q1, q2, ⟨q3, p, r, q6, q7, q8⟩, ⟨a9, g9, 0, cap9⟩⟩) rfl (T := fun w'' => BSeg w'' a9 g9 0 c.ng c.fg) (fun w'' k => ⟨hB9.at', fun i hi => (World.cell?_of_block (a := ⟨g9, 0 + i, none⟩) (k.2 _ (Nat.le_trans hzV hg9) (World.block_lt_of_cell? _ _ (hB9.cell i hi)))).trans (hB9.cell i hi)⟩)
     have co := (HT.out.mg.o 33 _ rfl).1
     have cf := (HT.out.mg.o 33 _ rfl).2
     obtain ⟨X, hX⟩ : ∃ X, wr.setCell ⟨w.heap.size + 1 + 1, 33, none⟩ (.slice a9 c.ng cap9) = X := ⟨_, rfl⟩
     rw [hX] at HF0
     have nv := HF0.nv
     have hld := run_ld (P := Tryz.prog) 54 _ X (by kernel_rfl) (by kernel_rfl) (w.heap.size + 1 + 1) 0 (Blk.ld HF0.mg.o 0 _ (fun j v h => by rw [Nat.zero_add]; exact h))
     have hst := run_st (P := Tryz.prog) 54 (ctL c ⟨q0, q1, q2, ⟨q3, p, r, q6, q7, q8⟩, ⟨a9, g9, 0, cap9⟩⟩) X (by kernel_rfl) (by simp [ctL, kyL, exL, Value.oneCell']) (w.heap.size + 1) 0 (Blk.st HF0.mg.d 0 _ (by simp [ctL, kyL, exL, zC]))
     have HF := hide (Blk.putAll1 HF0.mg.d (vs := ctL c ⟨q0, q1, q2, ⟨q3, p, r, q6, q7, q8⟩, ⟨a9, g9, 0, cap9⟩⟩) rfl)
     have HE := hide (below_putL (Nat.le_succ _) (ctL c ⟨q0, q1, q2, ⟨q3, p, r, q6, q7, q8⟩, ⟨a9, g9, 0, cap9⟩⟩) 0 X HF0.mg.ext)
     have HC : Hid (∀ w'', Kp w.heap.size (putL (w.heap.size + 1) 0 (ctL c ⟨q0, q1, q2, ⟨q3, p, r, q6, q7, q8⟩, ⟨a9, g9, 0, cap9⟩⟩) X) w'' → CtIn w'' c ⟨q0, q1, q2, ⟨q3, p, r, q6, q7, q8⟩, ⟨a9, g9, 0, cap9⟩⟩) := hide (fun w'' k => by
      have k2 : Kp V.heap.size X w'' := (Kp.putL (by omega) _ 0 X).trans (k.mono (by omega))
      obtain ⟨h1, h2⟩ := HF0.inn w'' (Nat.le_trans HF0.zh k2.1) (fun b e1 e2 => k2.2 b e1 (Nat.lt_of_lt_of_le e2 HF0.zh))
      obtain ⟨t1, t2, t3, t4, t5⟩ := HSS2.out _ h1
      obtain ⟨s1, s2, s3, s4⟩ := HSS.out _ t1
      exact ⟨s1, s2, s3, ⟨s4, t2, t3, t4, t5⟩, h2⟩)
     clear HF0 hB9 hg9 hzV HO HT nv
     go_wp2_with (first | (refine wpList_ld (by first | rfl | simp [Region.wanted, yielded]) 54 _ rfl _ rfl _ hld ?_) | (refine wpList_st (by first | rfl | simp [Region.wanted, yielded]) 54 _ _ rfl _ rfl _ rfl _ hst ?_) | (refine bodyPost_ret (v := .agg (ctL c ⟨q0, q1, q2, ⟨q3, p, r, q6, q7, q8⟩, ⟨a9, g9, 0, cap9⟩⟩).toArray) (results_at Tryz.results25 rfl (run_ld (P := Tryz.prog) 54 (ctL c ⟨q0, q1, q2, ⟨q3, p, r, q6, q7, q8⟩, ⟨a9, g9, 0, cap9⟩⟩) _ (by kernel_rfl) (by kernel_rfl) (w.heap.size + 1) 0 (Blk.ld HF.out 0 _ (fun j v h => by rw [Nat.zero_add]; exact h)))) rfl ⟨_, rfl, HC.out, HE.out⟩))
theorem cts_seg {w : World} {base n : Nat} {v : Value} {c : Nat → Ct} {m : Nat → CtPl} (h : w.ownsRow base 54 34 v n (ctsW c m n)) (he : ∀ i, i < n → CtIn w (c i) (m i)) : ∃ q : Plc, v = .slice q.ad n q.cap ∧ CSeg w q n c m := by
 have h' := h
 rcases h.2 with ⟨rfl, h0⟩ | ⟨g, cap, cur, rfl, hg, hb, hn, hm, hs, ht⟩
 ·subst h0
  exact ⟨⟨none, 0, 0, 0⟩, rfl, fun h => absurd h (Nat.lt_irrefl _), fun i h => absurd h (Nat.not_lt_zero _), he⟩
 ·refine ⟨⟨some ⟨g, 0, none⟩, g, 0, cap⟩, rfl, fun _ => rfl, fun i hi j v hv => ?_, he⟩
  show w.cell? ⟨g, 0 + i * 34 + j, none⟩ = _
  have hj : j < 34 := (List.getElem?_eq_some_iff.1 hv).1
  have : (i + 1) * 34 ≤ n * 34 := Nat.mul_le_mul_right _ hi
  rw [Nat.zero_add, World.ownsRow.cellAt h' (i * 34 + j) (by omega)]
  exact ctsW_at c m n i j v hi hv
def plaB (np na n : Nat) (f : Nat → Int) (i : Nat) : Bool := inB (f i) 0 (if i + 1 = n then (na : Int) - 1 else (np : Int) - 1)
def hasB (np na n : Nat) (f : Nat → Int) : Bool := decide (1 ≤ n) && decide (n ≤ 5) && allB (plaB np na n f) n
structure Crw (wr : World) (z : Nat) (v : Value) (j : Nat) (c : Nat → Ct) (m : Nat → CtPl) : Prop where
 own : wr.ownsRow z 54 34 v j (ctsW c m j)
 each : ∀ i, i < j → ∃ lo hi, hi ≤ wr.heap.size ∧ (∀ g, v.ownBlock = some g → g < lo ∨ hi ≤ g) ∧ ∀ w'', hi ≤ w''.heap.size → (∀ b, lo ≤ b → b < hi → w''.heap[b]? = wr.heap[b]?) → CtIn w'' (c i) (m i)
theorem Crw.step {wr w1 U w4 : World} {z j : Nat} {v v' : Value} {c : Nat → Ct} {m : Nat → CtPl} {q : CtPl} (h : Crw wr z v j c m) (hE : Ext wr w1) (hc : ∀ w'', Kp wr.heap.size w1 w'' → CtIn w'' (c j) q) (hU : Ext w1 U) (hown : w4.ownsRow z 54 34 v' (j + 1) (ctsW c (fun i => if i = j then q else m i) (j + 1))) (hg : U.grownBy w4 v.ownBlock) (hor : v'.ownBlock = v.ownBlock ∨ v'.ownBlock = some U.heap.size) : Crw w4 z v' (j + 1) c (fun i => if i = j then q else m i) := by
 have s1 := Below.size hE
 have s2 := Below.size hU
 have s3 := hg.size
 have ol := h.own.lt
 refine ⟨hown, fun i hi => ?_⟩
 have key : ∀ lo hi, hi ≤ U.heap.size → (∀ g, v.ownBlock = some g → g < lo ∨ hi ≤ g) → (∀ b, lo ≤ b → b < hi → w4.heap[b]? = U.heap[b]?) ∧ ∀ g, v'.ownBlock = some g → g < lo ∨ hi ≤ g := fun lo hi h1 h2 => ⟨fun b k1 k2 => hg.block b (by omega) (fun e => by have := h2 b e.symm; omega), fun g e => by
  rcases hor with h3 | h3
  ·exact h2 g (h3 ▸ e)
  ·rw [h3] at e; have := Option.some.inj e; omega⟩
 by_cases e : i = j
 ·subst e
  simp only [if_true]
  obtain ⟨k1, k2⟩ := key wr.heap.size w1.heap.size s2 (fun g hg' => .inl (ol g hg').2)
  exact ⟨wr.heap.size, w1.heap.size, by omega, k2, fun w'' h1 h2 => hc w'' ⟨h1, fun b h3 h4 => (h2 b h3 h4).trans ((k1 b h3 h4).trans (Below.block hU b h4))⟩⟩
 ·simp only [e, if_false]
  obtain ⟨lo, hi', h1, h2, h3⟩ := h.each i (by omega)
  obtain ⟨k1, k2⟩ := key lo hi' (by omega) h2
  exact ⟨lo, hi', by omega, k2, fun w'' g1 g2 => h3 w'' g1 (fun b e1 e2 => (g2 b e1 e2).trans ((k1 b e1 e2).trans (Below.block (hE.trans hU) b (by omega))))⟩
theorem Crw.read {wr : World} {z n : Nat} {v : Value} {c : Nat → Ct} {m : Nat → CtPl} (h : Crw wr z v n c m) : ∃ q : Plc, v = .slice q.ad n q.cap ∧ CSeg wr q n c m :=
 cts_seg h.own (fun i hi => by obtain ⟨lo, hi', h1, -, h3⟩ := h.each i hi; exact h3 wr h1 (fun _ _ _ => rfl))
theorem ch_in {w : World} {c : Cnd} {m : CndPl} (hI : CndIn w c m) {n : Nat} {P : Nat → Nat} (h1 : 1 ≤ n) (hp : ∀ i, i + 1 < n → P i < c.np) (ha : P (n - 1) < c.na) : ∀ i, i < n + 1 → CtIn w (chC c n P i) (chM m n P i) := fun i hi => by
 unfold chC chM
 by_cases e : i = 0
 ·simp only [if_pos e]; exact hI.l
 ·simp only [if_neg e]
  by_cases e2 : i < n
  ·simp only [if_pos e2]; exact hI.p.each _ (hp _ (by omega))
  ·simp only [if_neg e2]; exact hI.a.each _ ha
theorem ch_sm {c : Cnd} (hO : CndOk c) {n : Nat} {P : Nat → Nat} (hp : ∀ i, i + 1 < n → P i < c.np) (ha : P (n - 1) < c.na) : ∀ i, i < n + 1 → CtSm (chC c n P i) 1048576 := fun i hi => by
 unfold chC
 by_cases e : i = 0
 ·simp only [if_pos e]; exact hO.s0
 ·simp only [if_neg e]
  by_cases e2 : i < n
  ·simp only [if_pos e2]; exact hO.p.sm _ (hp _ (by omega))
  ·simp only [if_neg e2]; exact hO.a.sm _ ha
theorem inB_both {x lo hi : Int} : inB x lo hi = true ↔ lo ≤ x ∧ x ≤ hi := by unfold inB; simp
theorem has_of {np na n : Nat} {f : Nat → Int} (h : hasB np na n f = true) : 1 ≤ n ∧ n ≤ 5 ∧ (∀ i, i < n → f i = ((f i).toNat : Int)) ∧ (∀ i, i + 1 < n → (f i).toNat < np) ∧ (f (n - 1)).toNat < na := by
 unfold hasB at h
 simp only [Bool.and_eq_true, decide_eq_true_eq] at h
 obtain ⟨⟨h1, h2⟩, h3⟩ := h
 have h4 : ∀ i, i < n → 0 ≤ f i ∧ f i ≤ (if i + 1 = n then (na : Int) - 1 else (np : Int) - 1) := fun i hi => inB_both.1 (allB_iff.1 h3 i hi)
 refine ⟨h1, h2, fun i hi => by have := (h4 i hi).1; omega, fun i hi => ?_, ?_⟩
 ·have := h4 i (by omega)
  rw [if_neg (by omega)] at this
  omega
 ·have := h4 (n - 1) (by omega)
  rw [if_pos (by omega)] at this
  omega
def ansB (c : Cnd) (n : Nat) (f : Nat → Int) : Bool := cndB c && hasB c.np c.na n f
def ansN (c : Cnd) (n : Nat) (f : Nat → Int) : Nat := if ansB c n f then n + 1 else 0
def ansC (c : Cnd) (n : Nat) (f : Nat → Int) : Nat → Ct := chC c n (fun i => (f i).toNat)
set_option maxHeartbeats 12800000 in
set_option maxRecDepth 100000 in
theorem specChainOf_any (c : Cnd) (m : CndPl) (q : Plc) (n : Nat) (f : Nat → Int) (w : World) (hI : CndIn w c m) (hO : CndOk c) (hq : Seg w q.ad q.b q.off n f) (hn : n ≤ 1048576) :
  Calls Tryz.prog 6 #[.agg (ctL c.c0 m.m0).toArray, .slice m.pp.ad c.np m.pp.cap, .slice m.pa.ad c.na m.pa.cap, .slice q.ad n q.cap] w fun e w' => ∃ (p : Plc) (m' : Nat → CtPl), e = .returned (.tuple #[.slice p.ad (ansN c n f) p.cap, .bool (ansB c n f)]) ∧ CSeg w' p (ansN c n f) (ansC c n f) m' ∧ Ext w w' := by
 obtain ⟨V, hV⟩ : ∃ V, w.alloc (.cells (ctL c.c0 m.m0).toArray 54) = V := ⟨_, rfl⟩
 obtain ⟨B0, hE, -⟩ := box1 w (ctL c.c0 m.m0) 54 (w1 := V) (by rw [← hV]; exact Ext.refl _)
 have hlt := Blk.lt B0 (by simp [ctL, kyL, exL])
 have HLd : Hid (∀ W, Ext V W → (loadVar 54 ⟨w.heap.size, 0, none⟩).run Tryz.prog W = .ok (.agg (ctL c.c0 m.m0).toArray) W) := hide (fun W h => run_ld (P := Tryz.prog) 54 (ctL c.c0 m.m0) W (by kernel_rfl) (by kernel_rfl) w.heap.size 0 (Blk.ld (B0.ext h hlt) 0 _ (fun j v h => by rw [Nat.zero_add]; exact h)))
 obtain ⟨V1, hV1⟩ : ∃ V1, V.alloc (.cells #[] 54) = V1 := ⟨_, rfl⟩
 have HV1 : Hid (Ext V V1) := hide (by rw [← hV1]; exact Ext.alloc _ _)
 have HOk : Hid (∀ W, Ext V W → Calls Tryz.prog 22 #[.agg (ctL c.c0 m.m0).toArray, .slice m.pp.ad c.np m.pp.cap, .slice m.pa.ad c.na m.pa.cap] W fun e w' => e = .returned (.bool (cndB c)) ∧ Ext W w') := hide (fun W h => l12Ok_any c m W (hI.ext (hE.trans h)) hO)
 have HCh : Hid (hasB c.np c.na n f = true → ∀ W, Ext V W → Calls Tryz.prog 24 #[.agg (ctL c.c0 m.m0).toArray, .slice m.pp.ad c.np m.pp.cap, .slice m.pa.ad c.na m.pa.cap, .slice q.ad n q.cap] W fun e w' => ∃ p : Plc, e = .returned (.slice p.ad (n + 1) p.cap) ∧ CSeg w' p (n + 1) (ansC c n f) (chM m n (fun i => (f i).toNat)) ∧ Ext W w') := hide (fun hh W h => by
  obtain ⟨h1, h5, hf, hp, ha⟩ := has_of hh
  have hI' := hI.ext (hE.trans h)
  refine (l12Chain_any c m W hI' q n (fun i => (f i).toNat) ?_ h1 hn hp ha).mono ?_
  ·exact ⟨hq.at', fun i hi => by rw [← hf i hi]; exact (hq.of_all (hE.trans h)).cell i hi⟩
  ·rintro e w' ⟨v, rfl, ⟨B, hB, hown⟩, hE2⟩
   obtain ⟨p, rfl, hs⟩ := cts_seg hown (ch_in (hI'.ext hE2) h1 hp ha)
   exact ⟨p, rfl, hs, hE2⟩)
 have HSm : Hid (hasB c.np c.na n f = true → ∀ i, i < n + 1 → CtSm (ansC c n f i) 1048576) := hide (fun hh => by
  obtain ⟨h1, h5, hf, hp, ha⟩ := has_of hh
  exact ch_sm hO hp ha)
 have Hq := hide (hq.of_all hE)
 have HE := hide hE
 have Hn := hide hn
 have hnp := hO.p.n1
 have hna := hO.a.n1
 have HA : Hid (ansB c n f = (cndB c && hasB c.np c.na n f)) := hide rfl
 have hcut : ansB c n f = false → ∀ (W : World), Ext V W → ∃ (p : Plc) (m' : Nat → CtPl), (Ending.returned (.tuple #[.slice (some ⟨V.heap.size, 0, none⟩) 0 0, .bool false])) = .returned (.tuple #[.slice p.ad (ansN c n f) p.cap, .bool (ansB c n f)]) ∧ CSeg W p (ansN c n f) (ansC c n f) m' ∧ Ext w W := fun hb W hW => by
  refine ⟨⟨some ⟨V.heap.size, 0, none⟩, V.heap.size, 0, 0⟩, m.mp, ?_, ?_, hE.trans hW⟩
  ·unfold ansN; rw [hb]; rfl
  ·unfold ansN; rw [hb]; exact ⟨fun h => absurd h (Nat.lt_irrefl _), fun i h => absurd h (Nat.not_lt_zero _), fun i h => absurd h (Nat.not_lt_zero _)⟩
 have HCut := hide hcut
 have hld := HLd.out V1 HV1.out
 obtain ⟨L, hL⟩ : ∃ L, ctL c.c0 m.m0 = L := ⟨_, rfl⟩
 rw [hL] at HLd HOk HCh hld hV ⊢
 clear hI hO hq hE hlt B0 hL hcut hn
 obtain ⟨ad, b, off, cap⟩ := q
 dsimp only at *
 obtain ⟨b0, hb0⟩ : ∃ b, cndB c = b := ⟨_, rfl⟩
 rw [hb0] at HOk
 have Hb0 := hide hb0
 obtain ⟨r0, hr0⟩ : ∃ r, inB (n : Int) 1 5 = r := ⟨_, rfl⟩
 have HIn := hide (l1InB (n : Int) 1 5)
 rw [hr0] at HIn
 have Hr0 := hide hr0
 clear hb0 hr0
 go_enter Tryz.func6, Tryz.ntmps6
 go_wp2_with (first | (refine wpList_ld (by first | rfl | simp [Region.wanted, yielded]) 54 _ rfl _ rfl _ hld ?_))
 refine (HOk.out _ HV1.out).mono ?_
 rintro e w1 ⟨rfl, hE1⟩
 have HE1 := hide (HV1.out.trans hE1)
 clear hE1 hld HOk
 cases b0
 ·go_wp2
  go_ret2
  exact HCut.out (by rw [HA.out, Hb0.out]; rfl) _ HE1.out
 go_wp2_with fail
 refine (HIn.out _).mono ?_
 rintro e w2 ⟨rfl, hw⟩
 obtain rfl := hw.symm
 clear HIn hw
 cases r0
 ·go_wp2
  go_ret2
  refine HCut.out ?_ _ HE1.out
  have : hasB c.np c.na n f = false := by
   cases e : hasB c.np c.na n f
   ·rfl
   ·have h := has_of e
    have h2 := inB_yes (x := (n : Int)) (lo := 1) (hi := 5) (by omega) (by omega)
    rw [Hr0.out] at h2
    cases h2
  rw [HA.out, this, Bool.and_false]
 have h15 := inB_both.1 Hr0.out
 have Hn5 : Hid (1 ≤ n ∧ n ≤ 5) := hide (by omega)
 obtain rfl := Hq.out.at' (by omega)
 clear h15
 go_wp2
 go_loopw [11] (fun i wr => ∃ k : Nat, k ≤ n ∧ i = .int .i64 (k : Int) ∧ (∀ j, j < k → plaB c.np c.na n f j = true) ∧ Ext V wr) (fun i _ => n - (intOf i).toNat)
 case atStart => exact ⟨0, Nat.zero_le _, rfl, fun j hj => absurd hj (Nat.not_lt_zero _), HE1.out⟩
 case round =>
  clear HE1
  obtain ⟨k, hk, rfl, hd, hE⟩ := hrel
  have HD := hide hd
  have HE2 := hide hE
  clear hd
  by_cases hlt : k < n
  ·have c1 := (Hq.out.of_all hE).cell k hlt
   have hkn : (k : Int) < (n : Int) := by omega
   by_cases hl : k + 1 = n
   ·have hkk : (n : Int) - 1 = (k : Int) := by omega
    have hn5 : n ≤ 5 := Hn5.out.2
    have HP := hide (l1InB (f k) 0 ((c.na : Int) - 1))
    have hpl : plaB c.np c.na n f k = inB (f k) 0 ((c.na : Int) - 1) := by unfold plaB; rw [if_pos hl]
    obtain ⟨r, hr⟩ : ∃ r, inB (f k) 0 ((c.na : Int) - 1) = r := ⟨_, rfl⟩
    rw [hr] at HP hpl
    have Hpl := hide hpl
    obtain ⟨t, ht⟩ : ∃ t, f k = t := ⟨_, rfl⟩
    rw [ht] at HP c1
    clear hr hE hpl ht hl
    go_wp2_with fail
    refine (HP.out _).mono ?_
    rintro e w3 ⟨rfl, hw⟩
    obtain rfl := hw.symm
    clear HP hw c1
    cases r
    ·go_wp2
     go_ret2
     refine HCut.out ?_ _ HE2.out
     rw [HA.out, show hasB c.np c.na n f = false by unfold hasB; rw [allB_no hlt Hpl.out, Bool.and_false], Bool.and_false]
    ·go_wp2
     go_roundw
     case rel => exact ⟨k + 1, by omega, by go_num, fun j hj => by
            by_cases e : j = k
            ·rw [e]; exact Hpl.out
            ·exact HD.out j (by omega), HE2.out⟩
     case measure => simp [intOf]; omega
   ·have hkk : ¬ (k : Int) = (n : Int) - 1 := by omega
    have hn5 : n ≤ 5 := Hn5.out.2
    have HP := hide (l1InB (f k) 0 ((c.np : Int) - 1))
    have hpl : plaB c.np c.na n f k = inB (f k) 0 ((c.np : Int) - 1) := by unfold plaB; rw [if_neg hl]
    obtain ⟨r, hr⟩ : ∃ r, inB (f k) 0 ((c.np : Int) - 1) = r := ⟨_, rfl⟩
    rw [hr] at HP hpl
    have Hpl := hide hpl
    obtain ⟨t, ht⟩ : ∃ t, f k = t := ⟨_, rfl⟩
    rw [ht] at HP c1
    clear hr hE hpl ht hl
    go_wp2_with fail
    refine (HP.out _).mono ?_
    rintro e w3 ⟨rfl, hw⟩
    obtain rfl := hw.symm
    clear HP hw c1
    cases r
    ·go_wp2
     go_ret2
     refine HCut.out ?_ _ HE2.out
     rw [HA.out, show hasB c.np c.na n f = false by unfold hasB; rw [allB_no hlt Hpl.out, Bool.and_false], Bool.and_false]
    ·go_wp2
     go_roundw
     case rel => exact ⟨k + 1, by omega, by go_num, fun j hj => by
            by_cases e : j = k
            ·rw [e]; exact Hpl.out
            ·exact HD.out j (by omega), HE2.out⟩
     case measure => simp [intOf]; omega
  ·obtain rfl : k = n := by omega
   have hb : hasB c.np c.na k f = true := by
    unfold hasB
    rw [decide_eq_true Hn5.out.1, decide_eq_true Hn5.out.2, allB_iff.2 HD.out]
    rfl
   have hans : ansB c k f = true := by rw [HA.out, Hb0.out, hb]; rfl
   have HCx := hide (HCh.out hb _ hE)
   have HSx := hide (HSm.out hb)
   have Hans := hide hans
   have hld := HLd.out _ hE
   clear hE hb hans HCh HSm HLd HCut HA Hb0 HD
   go_wp2_with (first | (refine wpList_ld (by first | rfl | simp [Region.wanted, yielded]) 54 _ rfl _ rfl _ hld ?_))
   refine HCx.out.mono ?_
   rintro e w3 ⟨⟨pad, pb, poff, pcap⟩, rfl, hs, hE3⟩
   dsimp only at hs ⊢
   have hat := hs.at' (by omega)
   dsimp only at hat
   subst hat
   have HC := hide hs
   have HE3 := hide (HE.out.trans (HE2.out.trans hE3))
   have H0 := hide (World.ownsRow_made (base := w3.heap.size) (e := 54) (size := 34) w3 #[] 0 (Nat.le_refl _) (by simp) rfl)
   clear hs hE3 hld HCx
   go_wp2
   go_loopw [14, 15] (fun v i wr2 => ∃ (j : Nat) (mm : Nat → CtPl), j ≤ k + 1 ∧ i = .int .i64 (j : Int) ∧ Crw wr2 w3.heap.size v j (ansC c k f) mm ∧ Ext w3 wr2) (fun _ i _ => k + 1 - (intOf i).toNat)
   case atStart => exact ⟨0, m.mp, Nat.zero_le _, rfl, ⟨H0.out, fun i hi => absurd hi (Nat.not_lt_zero _)⟩, Ext.alloc _ _⟩
   case round =>
    clear H0
    obtain ⟨j, mm, hj, rfl, hN, hE⟩ := hrel
    have HN := hide hN
    have HEr := hide hE
    clear hN
    by_cases hlt : j < k + 1
    ·have hs2 := HC.out.ext hE
     have hld := hs2.ld j hlt
     have HX := hide (l12Own_any (ansC c k f j) (chM m k (fun i => (f i).toNat) j) wr (hs2.each j hlt) (HSx.out j hlt))
     have hk5 : k ≤ 5 := Hn5.out.2
     have hjk : (j : Int) < (k : Int) + 1 := by omega
     have hjk2 : (j : Int) < ((k + 1 : Nat) : Int) := by omega
     dsimp only at hld
     obtain ⟨L2, hL2⟩ : ∃ L, ctL (ansC c k f j) (chM m k (fun i => (f i).toNat) j) = L := ⟨_, rfl⟩
     rw [hL2] at hld HX
     clear hE hs2 hL2
     go_wp2_with (first | (refine wpList_ld (by first | rfl | simp [Region.wanted, yielded]) 54 _ rfl _ rfl _ hld ?_))
     refine HX.out.mono ?_
     rintro e w4 ⟨q4, rfl, hc, hE4⟩
     have hbs := bslice_ct (ansC c k f j) q4 w4
     obtain ⟨U, hU⟩ : ∃ U, w4.alloc (.cells (ctL (ansC c k f j) q4).toArray 54) = U := ⟨_, rfl⟩
     have HU : Hid (Ext w4 U) := hide (by rw [← hU]; exact Ext.alloc _ _)
     obtain ⟨mN, hmN⟩ : ∃ g : Nat → CtPl, g = (fun i => if i = j then q4 else mm i) := ⟨_, rfl⟩
     have HB : Hid (Blk U w4.heap.size (ctL (ansC c k f j) (mN j))) := hide (by rw [← hU, hmN]; simp only [if_true]; exact Blk.alloc w4 _ _)
     have HO : Hid (U.ownsRow w3.heap.size 54 34 u14 j (ctsW (ansC c k f) mN j)) := hide (by
      rw [hmN, ctsW_congr (c' := ansC c k f) (m' := mm) (fun i hi => ⟨rfl, if_neg (by omega)⟩)]
      exact owns_extE HN.out.own (hE4.trans HU.out))
     have Hmn := hide hmN
     clear hmN
     have HL : Hid (w3.heap.size ≤ U.heap.size ∧ j ≤ 1048576) := hide ⟨Below.size (HEr.out.trans (hE4.trans HU.out)), by have := Hn5.out.2; omega⟩
     rw [hU] at hbs
     have Hc := hide hc
     have HE4 := hide hE4
     obtain ⟨L3, hL3⟩ : ∃ L, ctL (ansC c k f j) q4 = L := ⟨_, rfl⟩
     rw [hL3] at hbs
     rw [hL3]
     clear hc hE4 HX hld hU hL3
     go_wp2_with (first | (refine wpList_bslice (by first | rfl | simp [Region.wanted, yielded]) 43 _ rfl _ (by go_simp) _ hbs ?_) | (at_builtin; refine wpList_appCt rfl _ _ rfl w3.heap.size u14 j (ansC c k f) mN rfl HO.out w4.heap.size rfl HB.out HL.out.2 HL.out.1 ?_; intro v' w5 hown hgrow hor))
     rw [Hmn.out] at hown
     have HN2 := hide (HN.out.step HE4.out Hc.out HU.out hown hgrow hor)
     have HE5 : Hid (Ext w3 w5) := hide ((HEr.out.trans (HE4.out.trans HU.out)).grown hgrow HL.out.1 (fun g hg => (HN.out.own.lt g hg).1))
     clear hown hgrow hor hbs HO HB HL Hc HE4 HU HN HEr
     go_wp2
     go_roundw
     case rel => exact ⟨j + 1, _, by omega, by go_num, HN2.out, HE5.out⟩
     case measure => simp [intOf]; omega
    ·obtain rfl : j = k + 1 := by omega
     obtain ⟨p, hv, hcs⟩ := HN.out.read
     subst hv
     have Hcs := hide hcs
     clear hcs hE HN
     go_wp2
     go_ret2
     have hN1 : ansN c k f = k + 1 := by unfold ansN; rw [Hans.out]; rfl
     exact ⟨p, mm, by rw [hN1, Hans.out]; rfl, by rw [hN1]; exact Hcs.out, HE3.out.trans HEr.out⟩
end
end Go.Proofs.YtfhiiakoilkbkaaGreatDoor
