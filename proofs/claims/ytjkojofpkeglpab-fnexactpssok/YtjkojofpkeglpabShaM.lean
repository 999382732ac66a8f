/- Walks: the model's l1Bytes and l5Feed. -/
import Derived.Test.YtjkojofpkeglpabShaB
import Derived.Test.YtjkojofpkeglpabShaS
import Derived.Test.YtjkojofpkeglpabBCat
namespace Go.Proofs.Ytjkojofpkeglpab
set_option linter.unusedVariables false
set_option linter.unusedSimpArgs false
open Go.RowKit

set_option maxHeartbeats 800000 in
set_option maxRecDepth 100000 in
theorem l1Bytes_any (a : Option Addr) (b off n cap : Nat) (f : Nat → Int) (w : World) (hB : BSeg w a b off n f) (hn : n ≤ 1099511627776) : Calls Try.prog 101 #[.slice a n cap] w fun e w' => GivesR w n f e w' := by
  have hown := World.ownsRow_made (base := w.heap.size) (e := 5) (size := 1) w #[] 0 (Nat.le_refl _) (by simp) rfl
  have Hb := hide (hB.of_all (Ext.alloc w (.cells #[] 5)))
  have Ho := hide hown
  clear hB hown
  go_enter Try.func101, Try.ntmps101
  go_wp2_with (at_builtin; refine wpList_append_bs rfl _ _ rfl w.heap.size _ 0 [] rfl Ho.out _ b off n cap f rfl Hb.out (by omega) (by simp) ?_)
  intro v' w1 h1 h2
  have HO := hide h1
  clear h1 Ho Hb
  have HE : Hid (Ext w w1) := hide (((Below.refl _ _).alloc (Nat.le_refl _) _).trans h2)
  clear h2
  go_wp2
  go_ret
  have h3 := HO.out
  first | exact ⟨_, rfl, h3, HE.out⟩ | (rw [Nat.zero_add] at h3; exact ⟨_, rfl, h3, HE.out⟩)

theorem Blk.set' {w : World} {C : Nat} {vs : List Value} (h : Blk w C vs) (i : Nat) (hi : i < vs.length) (v : Value) : Blk (w.setCell ⟨C, i, none⟩ v) C (vs.set i v) := fun k x hx => by
  rw [World.frozen?_setCell]
  rw [List.getElem?_set] at hx
  by_cases e : i = k
  · subst e
    rw [if_pos rfl, if_pos hi] at hx
    obtain rfl := Option.some.inj hx
    obtain ⟨h1, h2⟩ := h i _ (List.getElem?_eq_getElem hi)
    exact ⟨World.cell?_setCell_same _ _ _ h1, h2⟩
  · rw [if_neg e] at hx
    obtain ⟨h1, h2⟩ := h k x hx
    exact ⟨(World.cell?_setCell_other _ _ _ _ (fun q => e (by have := congrArg Addr.off q; simp at this; omega))).trans h1, h2⟩
theorem Blk.other' {w : World} {C D : Nat} {us : List Value} (h : Blk w D us) (hne : D ≠ C) (i : Nat) (v : Value) : Blk (w.setCell ⟨C, i, none⟩ v) D us := fun k x hx => by
  rw [World.frozen?_setCell]
  exact ⟨(World.cell?_setCell_other _ _ _ _ (fun q => hne (by have := congrArg Addr.block q; simp at this; omega))).trans (h k x hx).1, (h k x hx).2⟩
theorem BSeg.other' {w : World} {a : Option Addr} {g off n : Nat} {f : Nat → Int} (h : BSeg w a g off n f) {C : Nat} (hne : g ≠ C) (i : Nat) (v : Value) : BSeg (w.setCell ⟨C, i, none⟩ v) a g off n f :=
  ⟨h.at', fun k hk => (World.cell?_setCell_other _ _ _ _ (fun q => hne (by have := congrArg Addr.block q; simp at this; omega))).trans (h.cell k hk)⟩

theorem owns_touch {w w' : World} {b : Nat} {v : Value} {n : Nat} {xs : List Value} (h : w.ownsRow b 5 1 v n xs) {C : Nat} (ht : Touch C w w') (hC : C < b) : w'.ownsRow b 5 1 v n xs := by
  refine ⟨h.1, ?_⟩
  rcases h.2 with h | ⟨g, cap, cur, hv, hg, hr, hr'⟩
  · exact .inl h
  · refine .inr ⟨g, cap, cur, hv, hg, ?_, hr'⟩
    have hlt : g < w.heap.size := (Array.getElem?_eq_some_iff.1 hr).1
    rw [ht.grown.block g hlt (by simp; omega)]
    exact hr
theorem run_loadS (cs : List Value) (hl : cs.length = 10) (b : Nat) (w : World) (hc : ∀ j v, cs[j]? = some v → w.cell? ⟨b, j, none⟩ = some v) :
    (loadVar 62 ⟨b, 0, none⟩).run Try.prog w = .ok (.agg cs.toArray) w := by
  have hs : (Go.sizeOf 62).run Try.prog w = .ok 10 w := by kernel_rfl
  have ha : (isAgg 62).run Try.prog w = .ok true w := by kernel_rfl
  have hld := run_loadCells_list (P := Try.prog) w ⟨b, 0, none⟩ cs (fun j v h => by
    have := hc j v h
    rwa [show (⟨b, 0, none⟩ : Addr).add j = ⟨b, j, none⟩ by unfold Addr.add; split <;> simp_all])
  rw [hl] at hld
  simp only [loadVar, Sem.run_bind, ha, Result.andThen_ok, if_true, hs, hld, Sem.run_pure]

/-- In the midst of the model's blocks: q are behind. -/
structure AtF (w wr : World) (h b : Nat → Int) (g N q : Nat) (rs : Value) (mn : Int) (d : Value) : Prop where
  le : 64 * q ≤ N
  val : ∃ a off cap, d = .slice a (N - 64 * q) cap ∧ N - 64 * q ≤ cap ∧ cap ≤ 9223372036854775807 ∧ BSeg wr a g off (N - 64 * q) (fun i => b (64 * q + i))
  ext : Ext w wr
  st : Blk wr w.heap.size [.int .i64 (blocksV h b q 0), .int .i64 (blocksV h b q 1), .int .i64 (blocksV h b q 2), .int .i64 (blocksV h b q 3), .int .i64 (blocksV h b q 4), .int .i64 (blocksV h b q 5), .int .i64 (blocksV h b q 6), .int .i64 (blocksV h b q 7), rs, .int .i64 mn]
  res : Blk wr (w.heap.size + 1) [.int .i64 0, .int .i64 0, .int .i64 0, .int .i64 0, .int .i64 0, .int .i64 0, .int .i64 0, .int .i64 0, .slice none 0 0, .int .i64 0]

set_option maxHeartbeats 6400000 in
set_option maxRecDepth 100000 in
theorem l5Feed_any (h : Nat → Int) (r : Option Addr) (b off n cap : Nat) (f : Nat → Int) (many : Int) (da : Option Addr) (db doff m dcap : Nat) (fd : Nat → Int) (w : World) (hm0 : 0 ≤ many) (hm : (m : Int) ≤ 20000 - many) (hn : n ≤ 64) (hs : BSeg w r b off n f) (hd : BSeg w da db doff m fd) (hby : ∀ i, i < n → 0 ≤ f i ∧ f i < 256) (hdy : ∀ i, i < m → 0 ≤ fd i ∧ fd i < 256) :
    Calls Try.prog 79 #[.agg #[.int .i64 (h 0), .int .i64 (h 1), .int .i64 (h 2), .int .i64 (h 3), .int .i64 (h 4), .int .i64 (h 5), .int .i64 (h 6), .int .i64 (h 7), .slice r n cap, .int .i64 many], .slice da m dcap] w fun e w' => ∃ v, e = .returned (.agg #[.int .i64 (blocksV h (catF f n fd) ((n + m) / 64) 0), .int .i64 (blocksV h (catF f n fd) ((n + m) / 64) 1), .int .i64 (blocksV h (catF f n fd) ((n + m) / 64) 2), .int .i64 (blocksV h (catF f n fd) ((n + m) / 64) 3), .int .i64 (blocksV h (catF f n fd) ((n + m) / 64) 4), .int .i64 (blocksV h (catF f n fd) ((n + m) / 64) 5), .int .i64 (blocksV h (catF f n fd) ((n + m) / 64) 6), .int .i64 (blocksV h (catF f n fd) ((n + m) / 64) 7), v, .int .i64 (many + m)]) ∧ w'.ownsRow w.heap.size 5 1 v ((n + m) % 64) (byts (fun i => catF f n fd (64 * ((n + m) / 64) + i)) ((n + m) % 64)) ∧ Ext w w' := by
  have HBk := hide l5Block_any
  have HY : Hid (∀ i, i < n + m → 0 ≤ catF f n fd i ∧ catF f n fd i < 256) := hide (fun i hi => by
    unfold catF
    split
    · exact hby i (by assumption)
    · exact hdy _ (by omega))
  clear hby hdy
  go_enter Try.func79, Try.ntmps79
  go_wp2_with fail
  obtain ⟨V, hV⟩ : ∃ V, (w.alloc (.cells #[.int .i64 (h 0), .int .i64 (h 1), .int .i64 (h 2), .int .i64 (h 3), .int .i64 (h 4), .int .i64 (h 5), .int .i64 (h 6), .int .i64 (h 7), .slice r n cap, .int .i64 many] 62)).alloc (.cells #[.int .i64 0, .int .i64 0, .int .i64 0, .int .i64 0, .int .i64 0, .int .i64 0, .int .i64 0, .int .i64 0, .slice none 0 0, .int .i64 0] 62) = V := ⟨_, rfl⟩
  obtain ⟨B1, B2, hE, hz⟩ := box2 w [.int .i64 (h 0), .int .i64 (h 1), .int .i64 (h 2), .int .i64 (h 3), .int .i64 (h 4), .int .i64 (h 5), .int .i64 (h 6), .int .i64 (h 7), .slice r n cap, .int .i64 many] [.int .i64 0, .int .i64 0, .int .i64 0, .int .i64 0, .int .i64 0, .int .i64 0, .int .i64 0, .int .i64 0, .slice none 0 0, .int .i64 0] 62 62 (hV ▸ Ext.refl _ : Ext _ V)
  simp only [hV]
  clear hV
  refine (l1Bytes_any r b off n cap f V (hs.of_all hE) (by omega)).mono ?_
  rintro e w1 ⟨v1, rfl, hO1, h1⟩
  have B1' := B1.ext h1 (by omega)
  have B2' := B2.ext h1 (by omega)
  have hd1 := (hd.of_all hE).of_all h1
  have hEw := hE.trans h1
  have HO1 := hide (owns_mono hO1 (show w.heap.size + 2 ≤ V.heap.size by omega))
  have Hd1 := hide hd1
  have HB1 := hide B1'
  have HB2 := hide B2'
  have HEw := hide hEw
  have Hsz : Hid (w.heap.size + 2 ≤ w1.heap.size) := hide (Nat.le_trans hz (Below.size h1))
  clear B1 B2 hE hz B1' B2' hd1 hEw hs hd hO1 h1
  go_wp2_with (at_builtin; refine wpList_append_bs rfl _ _ rfl (w.heap.size + 2) _ n (byts f n) rfl HO1.out _ db doff m dcap fd rfl Hd1.out (by omega) Hsz.out ?_)
  intro v2 w2 hO2 h2
  rw [byts_append] at hO2
  have B3 : Blk w2 w.heap.size [.int .i64 (h 0), .int .i64 (h 1), .int .i64 (h 2), .int .i64 (h 3), .int .i64 (h 4), .int .i64 (h 5), .int .i64 (h 6), .int .i64 (h 7), .slice r n cap, .int .i64 many] := HB1.out.below h2 (by omega)
  have B4 : Blk w2 (w.heap.size + 1) [.int .i64 0, .int .i64 0, .int .i64 0, .int .i64 0, .int .i64 0, .int .i64 0, .int .i64 0, .int .i64 0, .slice none 0 0, .int .i64 0] := HB2.out.below h2 (by omega)
  obtain ⟨ca, cg, cc, rfl, hcg, hcc, hcb, hcB⟩ := owns_seg hO2
  have HE2 : Hid (Ext w w2) := hide (Below.trans HEw.out (h2.mono (by omega)))
  have HC := hide hcB.toBSeg
  have HB3 := hide B3
  have HB4 := hide B4
  clear hO2 h2 HO1 Hd1 HB1 HB2 HEw Hsz hcB
  obtain ⟨c9, f9⟩ := B3 9 _ rfl
  clear B3 B4
  obtain ⟨mn, hmn⟩ : ∃ mn, many + (m : Int) = mn := ⟨_, rfl⟩
  have rmn : IntKind.i64.wrap (many + (m : Int)) = mn := by rw [IntKind.wrap_i64]; omega
  have HA : Hid (AtF w (w2.setCell ⟨w.heap.size, 9, none⟩ (.int .i64 mn)) h (catF f n fd) cg (n + m) 0 (.slice r n cap) mn (.slice ca (n + m) cc)) := hide
    ⟨by omega, ⟨ca, 0, cc, rfl, hcc, hcb, (HC.out.other' (by omega) 9 _).congr (fun i _ => by show _ = catF f n fd (64 * 0 + i); rw [Nat.mul_zero, Nat.zero_add])⟩, Below.setCell (p := ⟨w.heap.size, 9, none⟩) HE2.out (Nat.le_refl _) _, HB3.out.set' 9 (by simp) _, HB4.out.other' (by omega) 9 _⟩
  have hcgw : w.heap.size + 1 < cg := by omega
  clear HC HE2 HB3 HB4 hcg hcc hcb
  obtain ⟨N, hN⟩ : ∃ N, N = n + m := ⟨_, rfl⟩
  have hN2 : N ≤ 1048576 := by omega
  obtain ⟨bb, hbb⟩ : ∃ bb : Nat → Int, bb = catF f n fd := ⟨_, rfl⟩
  rw [← hN, ← hbb] at HA HY
  go_wp2
  rw [← hN]
  have HN := hide hN
  have Hbb := hide hbb
  have Hmn := hide hmn
  clear hN hbb hmn rmn c9 f9
  generalize Value.slice r n cap = rs at HA
  rename_i K hK
  have HK := hide hK
  clear hK
  go_loopw [5] (fun d wr => ∃ q : Nat, AtF w wr h bb cg N q rs mn d) (fun d _ => (match d with | .slice _ n _ => n | _ => 0))
  case atStart => exact ⟨0, HA.out⟩
  case round =>
    clear HA
    obtain ⟨q, hat⟩ := hrel
    obtain ⟨a1, off1, cap1, rfl, hc1, hb1, hs1⟩ := hat.val
    by_cases hlt : 64 ≤ N - 64 * q
    · obtain rfl := hs1.at' (by omega)
      obtain ⟨L, hL⟩ : ∃ L, L = N - 64 * q := ⟨_, rfl⟩
      rw [← hL] at hs1 hc1 hlt ⊢
      have l64 : (64 : Int) ≤ L := by omega
      have c64 : (64 : Int) ≤ cap1 := by omega
      have Hat := hide hat
      have Hs := hide hs1
      obtain ⟨v, hv⟩ : ∃ v : Nat → Int, v = blocksV h bb q := ⟨_, rfl⟩
      obtain ⟨v2, hv2⟩ : ∃ v2 : Nat → Int, v2 = blocksV h bb (q + 1) := ⟨_, rfl⟩
      have HC : Hid (∀ w', Ext wr w' → Calls Try.prog 112 #[.agg #[.int .i64 (v 0), .int .i64 (v 1), .int .i64 (v 2), .int .i64 (v 3), .int .i64 (v 4), .int .i64 (v 5), .int .i64 (v 6), .int .i64 (v 7)], .slice (some ⟨cg, off1, none⟩) 64 cap1] w' fun e w'' => e = .returned (.agg #[.int .i64 (v2 0), .int .i64 (v2 1), .int .i64 (v2 2), .int .i64 (v2 3), .int .i64 (v2 4), .int .i64 (v2 5), .int .i64 (v2 6), .int .i64 (v2 7)]) ∧ Ext w' w'') := hide (fun w' he => by
        have := HBk.out v (fun i => bb (64 * q + i)) (some ⟨cg, off1, none⟩) cg off1 cap1 w' ((Hs.out.of_all he).cut (by omega)) (fun i hi => HY.out _ (by omega))
        rw [hv2, hv]
        rw [hv] at this
        exact this)
      have Hst : Hid (Blk wr w.heap.size [.int .i64 (v 0), .int .i64 (v 1), .int .i64 (v 2), .int .i64 (v 3), .int .i64 (v 4), .int .i64 (v 5), .int .i64 (v 6), .int .i64 (v 7), rs, .int .i64 mn]) := hide (by rw [hv]; exact Hat.out.st)
      have Hv2 := hide hv2
      clear hv hv2 hat hs1
      obtain ⟨X, hX⟩ : ∃ X : Nat → Prop, X = fun k => k = w.heap.size := ⟨_, rfl⟩
      have xS : X w.heap.size := by rw [hX]
      clear hX
      go_wp2
      refine anyK_begin X 7 rfl (by kernel_rfl) ?_
      refine anyK_take 0 1 6 rfl (by decide) (by kernel_rfl) (fun _ _ d _ _ h => by cases d <;> exact h) ?_
      repeat (refine headC_step (fun K hK => ?_); go_simp; first | (refine hK _ ?_; clear hK K) | (apply Exists.intro; refine ⟨fun _ => ?_, hK _ ?_⟩; (fail); clear hK K))
      refine headC_nil ?_
      refine anyK_take 2 2 4 rfl (by decide) (by kernel_rfl) (fun _ _ d _ _ h => by cases d <;> exact h) ?_
      repeat (refine headC_step (fun K hK => ?_); go_simp; first | (refine hK _ ?_; clear hK K) | (apply Exists.intro; refine ⟨fun _ => ?_, hK _ ?_⟩; (fail); clear hK K))
      refine headC_nil ?_
      refine anyK_one 1 (by kernel_rfl) ?_
      refine stepK_run rfl ?_
      intro w3 h3 K2 hK2
      have A3 := Hst.out.ext h3 (World.block_lt_of_cell? _ _ (Hst.out 0 _ rfl).1)
      have c0 := (A3 0 _ rfl).1
      have c1 := (A3 1 _ rfl).1
      have c2 := (A3 2 _ rfl).1
      have c3 := (A3 3 _ rfl).1
      have c4 := (A3 4 _ rfl).1
      have c5 := (A3 5 _ rfl).1
      have c6 := (A3 6 _ rfl).1
      have c7 := (A3 7 _ rfl).1
      go_simp
      refine hK2 _ _ (.of_ext h3) ?_
      clear hK2 K2 c0 c1 c2 c3 c4 c5 c6 c7 A3
      refine anyK_one 4 (by kernel_rfl) ?_
      refine stepK_run rfl ?_
      intro w4 h4 K2 hK2
      replace h4 := h3.trans h4
      clear h3
      go_simp
      refine (HC.out _ h4).mono ?_
      rintro e w5 ⟨rfl, h5⟩
      replace h5 := h4.trans h5
      clear h4
      refine hK2 _ _ (.of_ext h5) ?_
      clear hK2 K2
      refine anyK_take 5 1 1 rfl (by decide) (by kernel_rfl) (fun _ _ d _ _ h => by cases d <;> exact h) ?_
      repeat (refine headC_step (fun K hK => ?_); go_simp; first | (refine hK _ ?_; clear hK K) | (apply Exists.intro; refine ⟨fun _ => ?_, hK _ ?_⟩; (fail); clear hK K))
      refine headC_nil ?_
      refine anyK_one 6 (by kernel_rfl) ?_
      refine stepK_run rfl ?_
      intro w6 h6 K2 hK2
      replace h6 := h5.trans h6
      clear h5
      have A6 := Hst.out.ext h6 (World.block_lt_of_cell? _ _ (Hst.out 0 _ rfl).1)
      obtain ⟨c0, f0⟩ := A6 0 _ rfl
      obtain ⟨c1, f1⟩ := A6 1 _ rfl
      obtain ⟨c2, f2⟩ := A6 2 _ rfl
      obtain ⟨c3, f3⟩ := A6 3 _ rfl
      obtain ⟨c4, f4⟩ := A6 4 _ rfl
      obtain ⟨c5, f5⟩ := A6 5 _ rfl
      obtain ⟨c6, f6⟩ := A6 6 _ rfl
      obtain ⟨c7, f7⟩ := A6 7 _ rfl
      go_simp
      refine hK2 _ _ (show Grw X wr (putL w.heap.size 0 [.int .i64 (v2 0), .int .i64 (v2 1), .int .i64 (v2 2), .int .i64 (v2 3), .int .i64 (v2 4), .int .i64 (v2 5), .int .i64 (v2 6), .int .i64 (v2 7)] w6) from Grw.putL xS _ _ _ (.of_ext h6)) ?_
      clear hK2 K2 c0 c1 c2 c3 c4 c5 c6 c7 f0 f1 f2 f3 f4 f5 f6 f7
      refine anyK_done (by kernel_rfl) ?_ 0
      intro w7 h7
      replace h7 : Ext (putL w.heap.size 0 [.int .i64 (v2 0), .int .i64 (v2 1), .int .i64 (v2 2), .int .i64 (v2 3), .int .i64 (v2 4), .int .i64 (v2 5), .int .i64 (v2 6), .int .i64 (v2 7)] w6) w7 := h7
      have hsz : w.heap.size + 1 < w6.heap.size := World.block_lt_of_cell? _ _ (((Hat.out.res.ext h6 (World.block_lt_of_cell? _ _ (Hat.out.res 0 _ rfl).1)) 0 _ rfl).1)
      have HX : Hid (Ext w w7 ∧ Blk w7 w.heap.size [.int .i64 (v2 0), .int .i64 (v2 1), .int .i64 (v2 2), .int .i64 (v2 3), .int .i64 (v2 4), .int .i64 (v2 5), .int .i64 (v2 6), .int .i64 (v2 7), rs, .int .i64 mn] ∧ Blk w7 (w.heap.size + 1) [.int .i64 0, .int .i64 0, .int .i64 0, .int .i64 0, .int .i64 0, .int .i64 0, .int .i64 0, .int .i64 0, .slice none 0 0, .int .i64 0] ∧ BSeg w7 (some ⟨cg, off1, none⟩) cg off1 L (fun i => bb (64 * q + i))) := by
        have e7 : Ext w w7 := ((Hat.out.ext.trans h6).putL (Nat.le_refl _) _).trans h7
        have BB : Blk (putL w.heap.size 0 [.int .i64 (v2 0), .int .i64 (v2 1), .int .i64 (v2 2), .int .i64 (v2 3), .int .i64 (v2 4), .int .i64 (v2 5), .int .i64 (v2 6), .int .i64 (v2 7)] w6) w.heap.size [.int .i64 (v2 0), .int .i64 (v2 1), .int .i64 (v2 2), .int .i64 (v2 3), .int .i64 (v2 4), .int .i64 (v2 5), .int .i64 (v2 6), .int .i64 (v2 7), rs, .int .i64 mn] := ((((((((A6).set' 0 (by simp) (.int .i64 (v2 0))).set' 1 (by simp) (.int .i64 (v2 1))).set' 2 (by simp) (.int .i64 (v2 2))).set' 3 (by simp) (.int .i64 (v2 3))).set' 4 (by simp) (.int .i64 (v2 4))).set' 5 (by simp) (.int .i64 (v2 5))).set' 6 (by simp) (.int .i64 (v2 6))).set' 7 (by simp) (.int .i64 (v2 7))
        refine hide ⟨e7, BB.ext h7 (by rw [size_putL]; omega), ((Hat.out.res.ext h6 (World.block_lt_of_cell? _ _ (Hat.out.res 0 _ rfl).1)).put_other _ (by omega)).ext h7 (by rw [size_putL]; exact hsz), BSeg.of_all ⟨fun _ => rfl, fun i hi => ?_⟩ h7⟩
        rw [cell_putL_other _ _ _ _ _ (fun e => by simp only at e; omega)]
        exact (Hs.out.of_all h6).cell i hi
      clear h6 h7 A6 Hst HC hsz
      go_wp2
      go_roundw
      case rel =>
        refine ⟨q + 1, ⟨by omega, ⟨_, off1 + 64, _, rfl, ?_, ?_, ?_⟩, HX.out.1, by rw [← Hv2.out]; exact HX.out.2.1, HX.out.2.2.1⟩⟩
        · omega
        · omega
        · refine ⟨fun hp => ?_, fun i hi => ?_⟩
          · rw [if_neg (by omega)]
          · have := HX.out.2.2.2.cell (64 + i) (by omega)
            rw [show off1 + 64 + i = off1 + (64 + i) by omega, this, show 64 * (q + 1) + i = 64 * q + (64 + i) by omega]
      case measure => simp; omega
    · have hq : q = N / 64 := by have := hat.le; omega
      have hr : N - 64 * q = N % 64 := by omega
      subst hq
      obtain ⟨L, hL⟩ : ∃ L, L = N % 64 := ⟨_, rfl⟩
      rw [hr, ← hL] at hs1 hc1
      rw [hr, ← hL]
      have l64 : ¬ (64 : Int) ≤ (L : Int) := by omega
      have lbig : L ≤ 64 := by omega
      have HL := hide hL
      clear hr hL hlt
      have Hs := hide hs1
      obtain ⟨v, hv⟩ : ∃ v : Nat → Int, v = blocksV h bb (N / 64) := ⟨_, rfl⟩
      have A1 : Blk wr w.heap.size [.int .i64 (v 0), .int .i64 (v 1), .int .i64 (v 2), .int .i64 (v 3), .int .i64 (v 4), .int .i64 (v 5), .int .i64 (v 6), .int .i64 (v 7), rs, .int .i64 mn] := by rw [hv]; exact hat.st
      have Hv := hide hv
      have A2 := hat.res
      have HE := hide hat.ext
      clear hv hat hs1
      go_wp2
      apply HK.out
      clear HK HBk HY
      go_wp2_with fail
      refine (l1Bytes_any a1 cg off1 L cap1 _ wr Hs.out (by omega)).mono ?_
      rintro e w3 ⟨v3, rfl, hO3, h3⟩
      have hsz : w.heap.size + 1 < wr.heap.size := World.block_lt_of_cell? _ _ (A2 0 _ rfl).1
      obtain ⟨a3, g3, cc3, rfl, -, -, -, -⟩ := owns_seg hO3
      have A3 := A1.ext h3 (by omega)
      have A4 := A2.ext h3 (by omega)
      obtain ⟨c0, f0⟩ := A3 0 _ rfl
      obtain ⟨c1, f1⟩ := A3 1 _ rfl
      obtain ⟨c2, f2⟩ := A3 2 _ rfl
      obtain ⟨c3, f3⟩ := A3 3 _ rfl
      obtain ⟨c4, f4⟩ := A3 4 _ rfl
      obtain ⟨c5, f5⟩ := A3 5 _ rfl
      obtain ⟨c6, f6⟩ := A3 6 _ rfl
      obtain ⟨c7, f7⟩ := A3 7 _ rfl
      obtain ⟨c8, f8⟩ := A3 8 _ rfl
      obtain ⟨c9, f9⟩ := A3 9 _ rfl
      obtain ⟨z0, y0⟩ := A4 0 _ rfl
      obtain ⟨z1, y1⟩ := A4 1 _ rfl
      obtain ⟨z2, y2⟩ := A4 2 _ rfl
      obtain ⟨z3, y3⟩ := A4 3 _ rfl
      obtain ⟨z4, y4⟩ := A4 4 _ rfl
      obtain ⟨z5, y5⟩ := A4 5 _ rfl
      obtain ⟨z6, y6⟩ := A4 6 _ rfl
      obtain ⟨z7, y7⟩ := A4 7 _ rfl
      obtain ⟨z8, y8⟩ := A4 8 _ rfl
      obtain ⟨z9, y9⟩ := A4 9 _ rfl
      have HA3 := hide A3
      have HA4 := hide A4
      have HO3 := hide hO3
      have HE3 := hide (HE.out.trans h3)
      clear A1 A2 A3 A4 hO3 h3 HE Hs
      have Hsz := hide hsz
      go_wp2
      have BR := (HA4.out.other' (show w.heap.size + 1 ≠ w.heap.size by omega) 8 (.slice a3 L cc3)).put [.int .i64 (v 0), .int .i64 (v 1), .int .i64 (v 2), .int .i64 (v 3), .int .i64 (v 4), .int .i64 (v 5), .int .i64 (v 6), .int .i64 (v 7), .slice a3 L cc3, .int .i64 mn] rfl
      have hW := Ext.putL (Below.setCell (p := ⟨w.heap.size, 8, none⟩) HE3.out (Nat.le_refl _) (.slice a3 L cc3)) (C := w.heap.size + 1) (by omega) [.int .i64 (v 0), .int .i64 (v 1), .int .i64 (v 2), .int .i64 (v 3), .int .i64 (v 4), .int .i64 (v 5), .int .i64 (v 6), .int .i64 (v 7), .slice a3 L cc3, .int .i64 mn]
      have hOw := owns_touch (owns_touch HO3.out ((Touch.refl w.heap.size w3).set 8 (.slice a3 L cc3)) (by have := Hsz.out; omega)) (((((((((((Touch.refl (w.heap.size + 1) (w3.setCell ⟨w.heap.size, 8, none⟩ (.slice a3 L cc3))).set 0 (.int .i64 (v 0))).set 1 (.int .i64 (v 1))).set 2 (.int .i64 (v 2))).set 3 (.int .i64 (v 3))).set 4 (.int .i64 (v 4))).set 5 (.int .i64 (v 5))).set 6 (.int .i64 (v 6))).set 7 (.int .i64 (v 7))).set 8 (.slice a3 L cc3)).set 9 (.int .i64 mn)) Hsz.out
      replace hOw := owns_mono hOw (show w.heap.size ≤ wr.heap.size by have := Hsz.out; omega)
      simp only [putL] at BR hW
      generalize World.setCell _ ⟨w.heap.size + 1, 9, none⟩ _ = WE at *
      have hl := run_loadS _ rfl _ _ (fun j v h => (BR j v h).1)
      refine bodyPost_ret (v := .agg #[.int .i64 (v 0), .int .i64 (v 1), .int .i64 (v 2), .int .i64 (v 3), .int .i64 (v 4), .int .i64 (v 5), .int .i64 (v 6), .int .i64 (v 7), .slice a3 L cc3, .int .i64 mn]) ?_ rfl ?_
      · exact results_cell Try.results79 rfl hl
      · have hv := Hv.out
        have hL := HL.out
        have hN := HN.out
        have hbb := Hbb.out
        have hmn := Hmn.out
        subst hv hL hmn
        subst hN hbb
        exact ⟨_, rfl, hOw, hW⟩

end Go.Proofs.Ytjkojofpkeglpab
