/- Walks: the program's iterator below, for a caller that makes memory of its own in a round. Lists of numbers that are one's own: cut, read. Nothing of the program. -/
import Derived.Maps.OwnIn
import Derived.Test.YtmcdikbcmikihaaDoorSq04
import Derived.Test.YtmcdikbcmikihaaDoorSq12
import Derived.Test.YtmcdikbcmikihaaDoorSq02
namespace Go.Proofs.YtmcdikbcmikihaaDoor

section
set_option linter.unusedVariables false
set_option linter.unusedSimpArgs false

open Go.RowKit Go.Shelf

attribute [local go_sem] Oper.semAt_some

/-- What is O's, and what is new. -/
def Oup (O : Nat → Prop) (A C : World) (k : Nat) : Prop := O k ∨ (A.heap.size ≤ k ∧ k < C.heap.size)

theorem stp_of {O : Nat → Prop} {A C : World} (h : World.grownBy A C none) : Stp O A (Oup O A C) C := ⟨h.os, h.tape, h.output, h.size, fun k hk _ => h.block k hk (by simp), fun k => Iff.rfl⟩

theorem stp_alloc (O : Nat → Prop) (A : World) (o : Obj) : Stp O A (Oup O A (A.alloc o)) (A.alloc o) := ⟨rfl, rfl, rfl, by simp, fun k hk _ => Below.heap_alloc _ _ _ hk, fun k => Iff.rfl⟩

/-- An append of one number onto what is O's. -/
theorem stp_append {O : Nat → Prop} {A C : World} {o : Obj} {v : Value} (hg : (A.alloc o).grownBy C v.ownBlock) (hv : ∀ g, v.ownBlock = some g → O g) : Stp O A (Oup O A C) C :=
  ⟨hg.os, hg.tape, hg.output, by have := hg.size; simp at this; omega, fun k hk hn => (hg.block k (by simp; omega) (fun e => hn (hv k e.symm))).trans (Below.heap_alloc _ _ _ hk), fun k => Iff.rfl⟩

theorem stp_set {O : Nat → Prop} {A : World} {g p : Nat} (v : Value) (hg : O g) : Stp O A O (A.setCell ⟨g, p, none⟩ v) :=
  ⟨rfl, rfl, rfl, by simp [World.setCell], fun k _ hn => Below.heap_setCell _ _ _ _ (by rintro rfl; exact hn hg), fun k => ⟨.inl, fun h => h.elim id (fun ⟨h1, h2⟩ => by simp [World.setCell] at h2; omega)⟩⟩

theorem owns_rdo {X O : Nat → Prop} {W W' : World} (h : RdO X O W W') {B e n : Nat} {v : Value} {xs : List Value} (ho : W.ownsRow B e 1 v n xs) (hv : ∀ g, v.ownBlock = some g → O g) : W'.ownsRow B e 1 v n xs := by
  refine ⟨ho.1, ?_⟩
  rcases ho.2 with h0 | ⟨g, cap, cur, rfl, hb, hg, rest⟩
  · exact .inl h0
  · exact .inr ⟨g, cap, cur, rfl, hb, (h.same g (.inl (hv g rfl)) (Array.getElem?_eq_some_iff.1 hg).1).trans hg, rest⟩

theorem owns_blk {w : World} {B e n : Nat} {v : Value} {xs : List Value} (ho : w.ownsRow B e 1 v n xs) {g : Nat} (h : v.ownBlock = some g) : g < w.heap.size := (ho.lt g h).2

set_option maxHeartbeats 6400000 in
set_option maxRecDepth 100000 in
theorem below1_inO (n : Nat) (hn1 : 1 ≤ n) (m top CT CL b off cap : Nat) (kid : Nat → Int) (w0 : World) (htop : top ≤ m) (hm : m ≤ 1048576) (hm0 : 0 < m) (hCT : w0.cell? ⟨CT, 0, none⟩ = some (.int .i64 (top : Int))) (hCL : w0.cell? ⟨CL, 0, none⟩ = some (.slice (some ⟨b, off, none⟩) m cap)) (hK : KidAt w0 b off m kid) (hk : ∀ i, i < m → kid i ≤ 9223372036854775807) :
    TellsO (α := Pl m) n Tryd.prog 54 #[.pointer (some ⟨CT, 0, none⟩), .pointer (some ⟨CL, 0, none⟩)] encP (fun xs => xs.map (·.1) = trP kid (m - top) top []) (fun pre => pre.map (·.1) <+: trP kid (m - top) top []) m (XB CT CL b) w0 := by
  intro l J Jx W hW hJ hJx hY h0
  have lt1 : CT < w0.heap.size := World.block_lt_of_cell? _ _ hCT
  have lt2 : CL < w0.heap.size := World.block_lt_of_cell? _ _ hCL
  have lt3 : b < w0.heap.size := World.block_lt_of_cell? _ _ (hK 0 hm0)
  have a1 : ∀ o, (W.alloc o).cell? ⟨CT, 0, none⟩ = some (.int .i64 (top : Int)) := fun o => (Below.cell (hW.trans ((Below.refl _ _).alloc hW.size o)) (p := ⟨CT, 0, none⟩) lt1).trans hCT
  obtain ⟨i0, hi, hz0, hz1, hz2⟩ := info_parts Tryd.info3
  refine callsIn_of_wp Tryd.func54 rfl trivial ?_ rfl
  simp only [Tryd.ntmps54, List.size_toArray, List.length_cons, List.length_nil, Nat.reduceAdd, Nat.reduceSub, Array.replicate_succ, Array.replicate_zero, List.push_toArray, List.append_toArray, List.nil_append, List.cons_append]
  gi_wp2
  have hO0 : Hid ((W.alloc (.cells #[] 3)).ownsRow W.heap.size 3 1 (.slice (some ⟨W.heap.size, 0, none⟩) 0 0) 0 []) := World.ownsRow_made (base := W.heap.size) (e := 3) (size := 1) W #[] 0 (Nat.le_refl _) (by simp) rfl
  have HK2 : Hid (∀ wr : World, (∀ k, XB CT CL b k → wr.heap[k]? = W.heap[k]?) → wr.cell? ⟨CL, 0, none⟩ = some (.slice (some ⟨b, off, none⟩) m cap) ∧ KidAt wr b off m kid) := by
    intro wr hr
    refine ⟨?_, fun i hi => ?_⟩
    · rw [World.cell?_of_block (a := ⟨CL, 0, none⟩) (hr CL (.inr (.inl rfl)))]
      exact (hW.cell (p := ⟨CL, 0, none⟩) lt2).trans hCL
    · rw [World.cell?_of_block (a := ⟨b, off + i * 3 + 2, none⟩) (hr b (.inr (.inr rfl)))]
      exact (hW.cell (p := ⟨b, off + i * 3 + 2, none⟩) lt3).trans (hK i hi)
  have HXl : Hid (∀ k, XB CT CL b k → k < W.heap.size) := fun k hk => by have := hW.size; rcases hk with h | h | h <;> omega
  gi_loopw [4, 5] (fun v p wr => ∃ (i : Nat) (L : List Int) (pre : List (Pl m)) (O : Nat → Prop), p = .int .i64 (i : Int) ∧ top ≤ i ∧ i ≤ m ∧ L.length ≤ i ∧ (∀ c, c ∈ L → c ≤ 9223372036854775807) ∧ pre.length ≤ i ∧ wr.ownsRow W.heap.size 3 1 v L.length (iys L) ∧ pre.map (·.1) ++ trP kid (m - i) i (sOf L) = trP kid (m - top) top [] ∧ J O pre wr ∧ W.heap.size ≤ wr.heap.size ∧ (∀ k, XB CT CL b k → wr.heap[k]? = W.heap[k]?) ∧ (∀ k, O k → W.heap.size ≤ k ∧ k < wr.heap.size) ∧ (∀ g, v.ownBlock = some g → O g)) (fun _ p _ => m - (intOf p).toNat)
  case atStart =>
    refine ⟨top, [], [], Oup (fun _ => False) W (W.alloc (.cells #[] 3)), rfl, Nat.le_refl _, htop, Nat.zero_le _, fun c hc => by simp at hc, Nat.zero_le _, hO0.out, rfl, hJ [] _ _ _ _ h0 (stp_alloc _ _ _), by simp, fun k hk => Below.heap_alloc _ _ _ (HXl.out k hk), fun k hk => ?_, fun g hg => ?_⟩
    · rcases hk with h | h
      · exact h.elim
      · simp at h ⊢; omega
    · simp only [Value.ownBlock, Option.some.injEq] at hg
      subst hg
      exact .inr ⟨Nat.le_refl _, by simp⟩
  case round =>
    clear hO0 a1
    obtain ⟨i, L, pre, O, rfl, hti, him, hLi, hLc, hpi, hO, hT, hJp, hsz, hrd, hOk, hOv⟩ := hrel
    have HLc := hide hLc
    clear hLc
    obtain ⟨va, vc, rfl⟩ := owns_slice hO
    obtain ⟨cl, kd⟩ := HK2.out wr hrd
    have HOk := hide hOk
    have HOv := hide hOv
    clear hOk hOv
    have HO := hide hO
    have HT := hide hT
    have Hrd := hide hrd
    have Hpi := hide hpi
    have HLi := hide hLi
    clear hO hT hrd kd hpi hLi
    by_cases hlt : i < m
    · have hlt' : (i : Int) < (m : Int) := by omega
      obtain ⟨fn, tmps, assign, body, hy, hR⟩ := hY O pre ⟨(i, L.length), hlt⟩ wr hJp HOk.out hsz (by have := Hpi.out; omega)
      simp only [encP] at hy
      have HR := hide hR
      clear hR
      have HF : Hid (trP kid (m - i) i (sOf L) = (i, L.length) :: match popF ((kid i).toNat :: sOf L) with | none => [] | some st' => trP kid (m - (i + 1)) (i + 1) st') := by
        show _ = _
        rw [show m - i = (m - (i + 1)) + 1 by omega, trP, sOf_len]
        all_goals (cases popF ((kid i).toNat :: sOf L) <;> rfl)
      gi_wp2
      refine HR.out.mono ?_
      rintro e W3 (⟨rfl, hJ3, hk3⟩ | ⟨rfl, hJx3⟩)
      · have HO3 := hide (owns_rdo hk3 HO.out HOv.out)
        have Hrd3 : Hid (∀ k, XB CT CL b k → W3.heap[k]? = W.heap[k]?) := fun k hk => (hk3.same k (.inr hk) (by have := HXl.out k hk; omega)).trans (Hrd.out k hk)
        have HOk3 : Hid (∀ k, O k → W.heap.size ≤ k ∧ k < W3.heap.size) := fun k hk => by have := HOk.out k hk; have := hk3.size; omega
        obtain ⟨cl3, kd3⟩ := HK2.out W3 Hrd3.out
        have kc3 := kd3 i hlt
        have HJ3 := hide hJ3
        have hsz3 : W.heap.size ≤ W3.heap.size := Nat.le_trans hsz hk3.size
        have Hki := hide (hk i hlt)
        clear hJ3 hk3 kd3 HO Hrd cl hy HR
        have hLL : L.length ≤ 1048576 := by have := HLi.out; omega
        have HP : Hid (popF ((kid i).toNat :: sOf L) = popF (sOf (L ++ [kid i]))) := by show _ = _; rw [sOf_push]
        generalize hkk : kid i = kk at *
        clear hkk
        gi_wp2_with (gi_at_builtin; refine wpListIn_append_own_at _ rfl _ _ 36 rfl W.heap.size 3 i0 (.int .i64 0) 1 8 Tryd.underlying36 hi hz0 hz1 hz2 rfl (by decide) _ _ _ rfl (HO3.out.alloc _) ⟨W3.heap.size, 0, none⟩ 1 1 [.int .i64 kk] rfl rfl (cell_one_new _ _ _) (iys_one _) (by unfold maxLen; omega) (by omega) (by simp; omega) ?_; intro v' w4 hown' hgrow hnil hat)
        have HB4 := hide (below_append hsz3 HO3.out hgrow)
        have HS4 := hide (stp_append (O := O) hgrow HOv.out)
        have HO4 : Hid (w4.ownsRow W.heap.size 3 1 v' (L ++ [kk]).length (iys (L ++ [kk]))) := by
          show World.ownsRow _ _ _ _ _ _ _
          simpa [iys] using hown'
        have hsz4 : W.heap.size ≤ w4.heap.size := Nat.le_trans hsz3 HB4.out.size
        have HJ4 := hide (hJ _ _ _ W3 w4 HJ3.out HS4.out)
        have Hrd4 : Hid (∀ k, XB CT CL b k → w4.heap[k]? = W.heap[k]?) := fun k hk => (HB4.out.block k (HXl.out k hk)).trans (Hrd3.out k hk)
        have HOk4 : Hid (∀ k, Oup O W3 w4 k → W.heap.size ≤ k ∧ k < w4.heap.size) := fun k hk => by
          have hs := HB4.out.size
          rcases hk with h | h
          · have := HOk3.out k h; omega
          · omega
        have HOv4 : Hid (∀ g, v'.ownBlock = some g → Oup O W3 w4 g) := fun g hg => by
          rcases (show v'.ownBlock = (Value.slice va L.length vc).ownBlock ∨ v'.ownBlock = some ((W3.alloc (.cells #[.int .i64 kk] 3)).heap.size) from hat) with h | h
          · exact .inl (HOv.out g (by rw [← h]; exact hg))
          · rw [h] at hg
            simp only [Option.some.injEq] at hg
            subst hg
            refine .inr ⟨by simp, ?_⟩
            exact owns_blk HO4.out h
        clear hown' hgrow hnil hat HO3 Hrd3 HJ3 cl3 kc3 HOk3 HS4
        gi_loopw [4] (fun v wq => wq = w4 ∧ ∃ M : List Int, M.length ≤ L.length + 1 ∧ popF (sOf M) = popF ((kk).toNat :: sOf L) ∧ w4.ownsRow W.heap.size 3 1 v M.length (iys M) ∧ (∀ c, c ∈ M → c ∈ L ∨ c = kk) ∧ (∀ g, v.ownBlock = some g → Oup O W3 w4 g)) (fun v _ => match v with | .slice _ k _ => k | _ => 0)
        case atStart => exact ⟨rfl, L ++ [kk], by simp, HP.out.symm, HO4.out, fun c hc => by simpa using hc, HOv4.out⟩
        case round =>
          clear HO4 HP
          obtain ⟨rfl, M, hM1, hM2, hMO, hM3, hMv⟩ := hrel
          have HMv := hide hMv
          clear hMv
          have HM2 := hide hM2
          have HM3 := hide hM3
          clear hM2 hM3
          rcases list_last M with rfl | ⟨M', c, rfl⟩
          · obtain ⟨ma, mc, rfl⟩ := owns_slice hMO
            clear hMO
            gi_wp2
            refine bodyPost_ret (results_none rfl _ _ _) rfl ?_
            refine ⟨⟨_, rfl⟩, .inl ⟨pre ++ [⟨(i, L.length), hlt⟩], ?_, Oup O W3 wr, HJ4.out⟩⟩
            rw [← HT.out, HF.out, ← HM2.out, List.map_append]
            rfl
          · obtain ⟨g, gc, rfl, hgB, hgc, hgc2, cc, cf⟩ := owns_last hMO
            have HMO := hide hMO
            have hlen : (M' ++ [c]).length = M'.length + 1 := by simp
            rw [hlen] at hgc hM1
            have hp1 : (0 : Int) < (M'.length : Int) + 1 := by omega
            have hq1 : (0 : Int) ≤ (M'.length : Int) + 1 - 1 := by omega
            have HgB := hide hgB
            clear hMO hgB
            by_cases hc : c ≤ 0
            · rw [hlen]
              have HMO2 := hide (owns_cut HMO.out)
              have HM5 : Hid (popF (sOf M') = popF (kk.toNat :: sOf L)) := by show _ = _; rw [← HM2.out, popF_low hc]
              gi_wp2
              go_roundw
              case rel => exact ⟨by trivial, M', by omega, HM5.out, HMO2.out, fun c' h => HM3.out c' (by simp [h]), fun g' hg' => HMv.out g' (by simpa [Value.ownBlock] using hg')⟩
              case measure => simp
            · have hc1 : 0 < c := by omega
              have hcb : c ≤ 9223372036854775807 := by
                rcases HM3.out c (by simp) with h | h
                · exact HLc.out c h
                · rw [h]; exact Hki.out
              have hz : ((M'.length : Int) + 1 == 0) = false := by simp; omega
              have HO6 := hide (owns_setLast HMO.out (c - 1))
              have HB6 : Hid (Below W.heap.size wr (wr.setCell ⟨g, M'.length, none⟩ (.int .i64 (c - 1)))) := below_touch (Below.refl _ _) ((Touch.refl g wr).set M'.length _) HgB.out
              rw [hlen]
              gi_wp2
              go_roundw
              case rel =>
                refine ⟨i + 1, M' ++ [c - 1], pre ++ [⟨(i, L.length), hlt⟩], Oup O W3 wr, by go_num, by omega, by omega, by have := HLi.out; simp; omega, fun c' h => ?_, by have := Hpi.out; simp; omega, ?_, ?_, hJ _ _ _ wr _ HJ4.out (stp_set _ (HMv.out g rfl)), Nat.le_trans hsz4 HB6.out.size, fun k hk => (HB6.out.block k (HXl.out k hk)).trans (Hrd4.out k hk), fun k hk => by have := HOk4.out k hk; have := HB6.out.size; omega, fun g' hg' => HMv.out g' (by simpa [Value.ownBlock] using hg')⟩
                · rcases List.mem_append.1 h with h | h
                  · rcases HM3.out c' (by simp [h]) with h' | h'
                    · exact HLc.out c' h'
                    · rw [h']; exact Hki.out
                  · simp at h; omega
                · have := HO6.out
                  rw [show (M' ++ [c - 1]).length = M'.length + 1 by simp] at this ⊢
                  exact this
                · rw [← HT.out, HF.out, ← HM2.out, popF_high hc1, List.map_append, List.append_assoc]
                  rfl
              case measure => simp [intOf]; omega
      · gi_wp2
        go_end0
        refine ⟨⟨_, rfl⟩, .inr ⟨pre ++ [⟨(i, L.length), hlt⟩], _, ?_, hJx3⟩⟩
        rw [← HT.out, HF.out, List.map_append]
        exact ⟨_, by rw [List.append_assoc]; rfl⟩
    · obtain rfl : i = m := by omega
      gi_wp2
      refine ⟨fun _ h => (by cases h), ?_⟩
      gi_wp2
      go_end0
      refine ⟨⟨_, rfl⟩, .inl ⟨pre, _, ?_, hJp⟩⟩
      have h := HT.out
      rw [Nat.sub_self, trP, List.append_nil] at h
      exact h
end

section
set_option linter.unusedVariables false
set_option linter.unusedSimpArgs false

open Go.RowKit

theorem owns_take {w : World} {B g cap : Nat} {L : List Int} (A : Nat) (hA : A ≤ L.length) (h : w.ownsRow B 3 1 (.slice (some ⟨g, 0, none⟩) L.length cap) L.length (iys L)) : w.ownsRow B 3 1 (.slice (some ⟨g, 0, none⟩) (L.take A).length cap) (L.take A).length (iys (L.take A)) := by
  rcases h.2 with ⟨h0, _⟩ | ⟨g', cap', cur, hv, hb, hg, h1, h2, h3, h4⟩
  · simp at h0
  · simp only [Value.slice.injEq, Option.some.injEq, Addr.mk.injEq] at hv
    obtain ⟨⟨rfl, -, -⟩, -, rfl⟩ := hv
    have hl : (L.take A).length = A := by rw [List.length_take]; omega
    refine ⟨by simp [iys], .inr ⟨g, cap, cur, rfl, hb, hg, by omega, h2, h3, ?_⟩⟩
    have h5 : cur.toList.take L.length = iys L := by simpa using h4
    have h6 : (cur.toList.take L.length).take A = cur.toList.take A := by rw [List.take_take, Nat.min_eq_left hA]
    rw [Nat.mul_one, hl, ← h6, h5]
    simp [iys, List.map_take]

theorem owns_cells {w : World} {B g cap : Nat} {L : List Int} (h : w.ownsRow B 3 1 (.slice (some ⟨g, 0, none⟩) L.length cap) L.length (iys L)) : B ≤ g ∧ g < w.heap.size ∧ L.length ≤ cap ∧ cap ≤ 9223372036854775807 ∧ ∀ i, i < L.length → w.cell? ⟨g, i, none⟩ = some (.int .i64 (L.getD i 0)) := by
  have h' := h
  rcases h.2 with ⟨h0, _⟩ | ⟨g', cap', cur, hv, hb, hg, h1, h2, h3, h4⟩
  · simp at h0
  · simp only [Value.slice.injEq, Option.some.injEq, Addr.mk.injEq] at hv
    obtain ⟨⟨rfl, -, -⟩, -, rfl⟩ := hv
    refine ⟨hb, (Array.getElem?_eq_some_iff.1 hg).1, h1, by unfold maxLen at h2; omega, fun i hi => ?_⟩
    rw [World.ownsRow.cellAt h' i (by simpa using hi)]
    simp [iys, hi]

theorem iowns_ext0 {w w' : World} {b : Nat} {v : Value} {n : Nat} {xs : List Value} (h : w.ownsRow b 3 1 v n xs) (he : Ext w w') : w'.ownsRow b 3 1 v n xs := by
  refine ⟨h.1, ?_⟩
  rcases h.2 with h | ⟨g, cap, cur, hv, hg, hr, hr'⟩
  · exact .inl h
  · refine .inr ⟨g, cap, cur, hv, hg, ?_, hr'⟩
    rw [Below.block he g (Array.getElem?_eq_some_iff.1 hr).1]; exact hr

/-- An append of one number onto a list of one's own; which block turned. -/
theorem wp_app1 {o : Oper} {a0 : Act} {K : Act → World → Prop} {Q : Exit → Act → World → Prop} {w : World} (s x : Operand)
    (ho : o.op = .call { callee := .builtin .append, args := #[s, x], argTypes := #[36, 36] })
    (base g cap : Nat) (L : List Int) (hs : a0.eval s = .slice (some ⟨g, 0, none⟩) L.length cap) (hown : w.ownsRow base 3 1 (.slice (some ⟨g, 0, none⟩) L.length cap) L.length (iys L))
    (b : Nat) (z : Int) (hx : a0.eval x = .slice (some ⟨b, 0, none⟩) 1 1) (hc : w.cell? ⟨b, 0, none⟩ = some (.int .i64 z)) (hlen : L.length ≤ 1048576) (hbase : base ≤ w.heap.size)
    (h : ∀ g' cap' w', w'.ownsRow base 3 1 (.slice (some ⟨g', 0, none⟩) (L ++ [z]).length cap') (L ++ [z]).length (iys (L ++ [z])) → w.grownBy w' (some g) → (g' = g ∨ g' = w.heap.size) → K (a0.put o.dst (.slice (some ⟨g', 0, none⟩) (L ++ [z]).length cap')) w') : o.wp Tryd.prog a0 w K Q := by
  obtain ⟨i0, hi, hz0, hz1, hz2⟩ := info_parts Tryd.info3
  obtain ⟨v', w', hr, h2, h3, h4, h5⟩ := run_append_own_at (P := Tryd.prog) w base 36 o.type 3 i0 (.int .i64 0) 1 8 Tryd.underlying36 hi hz0 hz1 hz2 rfl (by decide) _ L.length (iys L) hown ⟨b, 0, none⟩ 1 1 [.int .i64 z] rfl (by
    intro j u hj
    cases j with
    | zero => simp at hj; subst hj; simpa [Addr.add] using hc
    | succ j => simp at hj) (iys_one z) (by unfold maxLen; omega) (by omega) hbase
  have h2' : w'.ownsRow base 3 1 v' (L ++ [z]).length (iys (L ++ [z])) := by simpa [iys] using h2
  rcases h2'.2 with ⟨h0, h1⟩ | ⟨g', cap', cur, rfl, hrest⟩
  · simp at h1
  · unfold Oper.wp execOp
    simp only [ho, resolve, invoke, builtin, Sem.run_bind, Sem.run_pure, Result.andThen_ok, List.map_toArray, List.map_cons, List.map_nil, hs, hx, hr]
    refine h g' cap' w' h2' h3 ?_
    simpa [Value.ownBlock] using h5

theorem grw_grown {X : Nat → Prop} {w w' : World} {g : Nat} (h : w.grownBy w' (some g)) (hX : X g) : Grw X w w' := ⟨h.os, h.tape, h.output, h.size, fun k hk hn => h.block k hk (by simp; rintro rfl; exact hn hX)⟩
end

end Go.Proofs.YtmcdikbcmikihaaDoor
