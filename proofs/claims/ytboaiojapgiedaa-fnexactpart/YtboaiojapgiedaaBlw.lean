/- Walks: the program's iterator below: what it tells, whatever its caller does with it. -/
import Derived.Test.YtboaiojapgiedaaRFun
import Derived.Test.YtboaiojapgiedaaTrC
import Derived.Shelf.Abstract
import Derived.Shelf.RegionOpen
import Derived.WalkKit
import Derived.OwnWalkIn
import Derived.TacticsInMore
import Derived.LoopNIn
import Derived.LoopIn
import Derived.Maps.AppendAt
namespace Go.Proofs.Ytboaiojapgiedaa
set_option linter.unusedVariables false
set_option linter.unusedSimpArgs false
open Go.RowKit Go.Shelf
attribute [local go_sem] Oper.semAt_some

/-- Numbers as cells. -/
def iys (L : List Int) : List Value := L.map (.int .i64)
/-- The stack that a list of numbers is, the innermost first. -/
def sOf (L : List Int) : List Nat := (L.map Int.toNat).reverse
theorem sOf_push (L : List Int) (k : Int) : sOf (L ++ [k]) = k.toNat :: sOf L := by simp [sOf]
theorem sOf_len (L : List Int) : (sOf L).length = L.length := by simp [sOf]

theorem iys_one (x : Int) : ∀ u ∈ [Value.int .i64 x], u.oneCell' = true := by
  intro u hu
  simp at hu
  subst hu
  rfl

/-- The Kids of n items in memory. -/
def KidAt (w : World) (b off n : Nat) (kid : Nat → Int) : Prop := ∀ i, i < n → w.cell? ⟨b, off + i * 3 + 2, none⟩ = some (.int .i64 (kid i))

/-- What an iterator of n items tells: a place that is one, and how many are around. -/
abbrev Pl (n : Nat) := { p : Nat × Nat // p.1 < n }
def encP {n : Nat} (p : Pl n) : Array Value := #[.int .i64 (p.1.1 : Int), .int .i64 (p.1.2 : Int)]

/-- The blocks that the iterator reads. -/
def XB (CT CL b : Nat) (k : Nat) : Prop := k = CT ∨ k = CL ∨ k = b

theorem owns_rd {X : Nat → Prop} {B : Nat} {W W' : World} (h : Rd X B W W') {e n : Nat} {v : Value} {xs : List Value} (ho : W.ownsRow B e 1 v n xs) : W'.ownsRow B e 1 v n xs := by
  refine ⟨ho.1, ?_⟩
  rcases ho.2 with h0 | ⟨g, cap, cur, rfl, hb, hg, rest⟩
  · exact .inl h0
  · exact .inr ⟨g, cap, cur, rfl, hb, (h.same g (.inl hb) (Array.getElem?_eq_some_iff.1 hg).1).trans hg, rest⟩

theorem below_append {B : Nat} {wr w1 : World} {o : Obj} {e n : Nat} {v : Value} {xs : List Value} (hb : B ≤ wr.heap.size) (ho : wr.ownsRow B e 1 v n xs) (hg : (wr.alloc o).grownBy w1 v.ownBlock) : Below B wr w1 :=
  ((Below.refl B wr).alloc hb o).grown hg (by simp; omega) (fun j hj => (ho.lt j hj).1)

/-- The list less its last. -/
theorem owns_cut {w : World} {B g cap : Nat} {L : List Int} {c : Int} (h : w.ownsRow B 3 1 (.slice (some ⟨g, 0, none⟩) (L ++ [c]).length cap) (L ++ [c]).length (iys (L ++ [c]))) : w.ownsRow B 3 1 (.slice (some ⟨g, 0, none⟩) L.length cap) L.length (iys L) := by
  rcases h.2 with ⟨h0, _⟩ | ⟨g', cap', cur, hv, hb, hg, h1, h2, h3, h4⟩
  · simp at h0
  · simp only [Value.slice.injEq, Option.some.injEq, Addr.mk.injEq] at hv
    obtain ⟨⟨rfl, -, -⟩, -, rfl⟩ := hv
    refine ⟨by simp [iys], .inr ⟨g, cap, cur, rfl, hb, hg, by simp at h1; omega, h2, h3, ?_⟩⟩
    have h5 : cur.toList.take (L.length + 1) = iys (L ++ [c]) := by simpa using h4
    have h6 : (cur.toList.take (L.length + 1)).take L.length = cur.toList.take L.length := by rw [List.take_take, Nat.min_eq_left (by omega)]
    rw [Nat.mul_one, ← h6, h5]
    simp [iys]

theorem owns_last {w : World} {B : Nat} {v : Value} {L : List Int} {c : Int} (h : w.ownsRow B 3 1 v (L ++ [c]).length (iys (L ++ [c]))) :
    ∃ g cap, v = .slice (some ⟨g, 0, none⟩) (L ++ [c]).length cap ∧ B ≤ g ∧ (L ++ [c]).length ≤ cap ∧ cap ≤ 9223372036854775807 ∧ w.cell? ⟨g, L.length, none⟩ = some (.int .i64 c) ∧ w.frozen? ⟨g, L.length, none⟩ = false := by
  have h' := h
  rcases h.2 with ⟨_, h0⟩ | ⟨g, cap, cur, rfl, hb, hg, h1, h2, h3, h4⟩
  · simp at h0
  · refine ⟨g, cap, rfl, hb, h1, by unfold maxLen at h2; omega, ?_, World.ownsRow.frozenAt h' _⟩
    rw [World.ownsRow.cellAt h' L.length (by simp)]
    simp [iys]
theorem owns_setLast {w : World} {B g cap : Nat} {L : List Int} {c : Int} (h : w.ownsRow B 3 1 (.slice (some ⟨g, 0, none⟩) (L ++ [c]).length cap) (L ++ [c]).length (iys (L ++ [c]))) (x : Int) :
    (w.setCell ⟨g, L.length, none⟩ (.int .i64 x)).ownsRow B 3 1 (.slice (some ⟨g, 0, none⟩) (L ++ [x]).length cap) (L ++ [x]).length (iys (L ++ [x])) := by
  have := (World.ownsRow.stored h L.length (.int .i64 x)).1
  rw [show (iys (L ++ [c])).set L.length (.int .i64 x) = iys (L ++ [x]) by simp [iys, List.set_append]] at this
  rw [show (L ++ [x]).length = (L ++ [c]).length by simp]
  exact this
theorem rd_below {X : Nat → Prop} {W wr w1 : World} (h : Rd X W.heap.size W wr) (k : Below W.heap.size wr w1) : Rd X W.heap.size W w1 :=
  ⟨k.os.trans h.os, k.tape.trans h.tape, k.output.trans h.output, Nat.le_trans h.size k.size, fun i hi hl => (k.block i hl).trans (h.same i hi hl)⟩
theorem owns_slice {w : World} {B n : Nat} {v : Value} {xs : List Value} (h : w.ownsRow B 3 1 v n xs) : ∃ a c, v = .slice a n c := by
  rcases h.2 with ⟨rfl, rfl⟩ | ⟨g, cap, cur, rfl, _⟩
  · exact ⟨_, _, rfl⟩
  · exact ⟨_, _, rfl⟩
theorem popF_low {L : List Int} {c : Int} (h : c ≤ 0) : popF (sOf (L ++ [c])) = popF (sOf L) := by
  rw [sOf_push, show c.toNat = 0 by omega]; rfl
theorem popF_high {L : List Int} {c : Int} (h : 0 < c) : popF (sOf (L ++ [c])) = some (sOf (L ++ [c - 1])) := by
  rw [sOf_push, sOf_push, show c.toNat = (c - 1).toNat + 1 by omega]; rfl
theorem list_last (L : List Int) : L = [] ∨ ∃ M c, L = M ++ [c] := by
  rcases List.eq_nil_or_concat L with h | ⟨M, c, h⟩
  · exact .inl h
  · exact .inr ⟨M, c, by simpa using h⟩

set_option maxHeartbeats 6400000 in
set_option maxRecDepth 100000 in
theorem below1_in (n : Nat) (hn1 : 1 ≤ n) (m top CT CL b off cap : Nat) (kid : Nat → Int) (w0 : World) (htop : top ≤ m) (hm : m ≤ 1048576) (hm0 : 0 < m) (hCT : w0.cell? ⟨CT, 0, none⟩ = some (.int .i64 (top : Int))) (hCL : w0.cell? ⟨CL, 0, none⟩ = some (.slice (some ⟨b, off, none⟩) m cap)) (hK : KidAt w0 b off m kid) (hk : ∀ i, i < m → kid i ≤ 9223372036854775807) :
    Tells (α := Pl m) n Try.prog 61 #[.pointer (some ⟨CT, 0, none⟩), .pointer (some ⟨CL, 0, none⟩)] encP (fun xs => xs.map (·.1) = trP kid (m - top) top []) (fun pre => pre.map (·.1) <+: trP kid (m - top) top []) m (XB CT CL b) w0 := by
  intro l J Jx W hW hJ hJx hY h0
  have lt1 : CT < w0.heap.size := World.block_lt_of_cell? _ _ hCT
  have lt2 : CL < w0.heap.size := World.block_lt_of_cell? _ _ hCL
  have lt3 : b < w0.heap.size := World.block_lt_of_cell? _ _ (hK 0 hm0)
  have a1 : ∀ o, (W.alloc o).cell? ⟨CT, 0, none⟩ = some (.int .i64 (top : Int)) := fun o => (Below.cell (hW.trans ((Below.refl _ _).alloc hW.size o)) (p := ⟨CT, 0, none⟩) lt1).trans hCT
  obtain ⟨i0, hi, hz0, hz1, hz2⟩ := info_parts Try.info3
  refine callsIn_of_wp Try.func61 rfl trivial ?_ rfl
  simp only [Try.ntmps61, List.size_toArray, List.length_cons, List.length_nil, Nat.reduceAdd, Nat.reduceSub, Array.replicate_succ, Array.replicate_zero, List.push_toArray, List.append_toArray, List.nil_append, List.cons_append]
  gi_wp2
  have hO0 : Hid ((W.alloc (.cells #[] 3)).ownsRow W.heap.size 3 1 (.slice (some ⟨W.heap.size, 0, none⟩) 0 0) 0 []) := World.ownsRow_made (base := W.heap.size) (e := 3) (size := 1) W #[] 0 (Nat.le_refl _) (by simp) rfl
  have HK2 : Hid (∀ wr, Rd (XB CT CL b) W.heap.size W wr → wr.cell? ⟨CL, 0, none⟩ = some (.slice (some ⟨b, off, none⟩) m cap) ∧ KidAt wr b off m kid) := by
    intro wr hr
    have hs := hW.size
    refine ⟨?_, fun i hi => ?_⟩
    · rw [World.cell?_of_block (a := ⟨CL, 0, none⟩) (hr.same CL (.inr (.inr (.inl rfl))) (by omega))]
      exact (hW.cell (p := ⟨CL, 0, none⟩) lt2).trans hCL
    · rw [World.cell?_of_block (a := ⟨b, off + i * 3 + 2, none⟩) (hr.same b (.inr (.inr (.inr rfl))) (by omega))]
      exact (hW.cell (p := ⟨b, off + i * 3 + 2, none⟩) lt3).trans (hK i hi)
  gi_loopw [4, 5] (fun v p wr => ∃ (i : Nat) (L : List Int) (pre : List (Pl m)), p = .int .i64 (i : Int) ∧ top ≤ i ∧ i ≤ m ∧ L.length ≤ i ∧ (∀ c, c ∈ L → c ≤ 9223372036854775807) ∧ pre.length ≤ i ∧ wr.ownsRow W.heap.size 3 1 v L.length (iys L) ∧ pre.map (·.1) ++ trP kid (m - i) i (sOf L) = trP kid (m - top) top [] ∧ J pre wr ∧ W.heap.size ≤ wr.heap.size ∧ Rd (XB CT CL b) W.heap.size W wr) (fun _ p _ => m - (intOf p).toNat)
  case atStart => exact ⟨top, [], [], rfl, Nat.le_refl _, htop, Nat.zero_le _, fun c hc => by simp at hc, Nat.zero_le _, hO0.out, rfl, hJ [] W _ h0 ((Below.refl _ _).alloc (Nat.le_refl _) _), by simp, rd_below (Rd.refl _ _ _) ((Below.refl _ _).alloc (Nat.le_refl _) _)⟩
  case round =>
    clear hO0 a1
    obtain ⟨i, L, pre, rfl, hti, him, hLi, hLc, hpi, hO, hT, hJp, hsz, hrd⟩ := hrel
    have HLc := hide hLc
    clear hLc
    obtain ⟨va, vc, rfl⟩ := owns_slice hO
    obtain ⟨cl, kd⟩ := HK2.out wr hrd
    have HO := hide hO
    have HT := hide hT
    have Hrd := hide hrd
    have Hpi := hide hpi
    have HLi := hide hLi
    clear hO hT hrd kd hpi hLi
    by_cases hlt : i < m
    · have hlt' : (i : Int) < (m : Int) := by omega
      obtain ⟨fn, tmps, assign, body, hy, hR⟩ := hY pre ⟨(i, L.length), hlt⟩ wr hJp hsz (by have := Hpi.out; omega)
      simp only [encP] at hy
      have HR := hide hR
      clear hR
      have HF : Hid (trP kid (m - i) i (sOf L) = (i, L.length) :: match popF ((kid i).toNat :: sOf L) with | none => [] | some st' => trP kid (m - (i + 1)) (i + 1) st') := by
        show _ = _
        rw [show m - i = (m - (i + 1)) + 1 by omega, trP, sOf_len]
        cases popF ((kid i).toNat :: sOf L) <;> rfl
      gi_wp2
      refine HR.out.mono ?_
      rintro e W3 (⟨rfl, hJ3, hk3⟩ | ⟨rfl, hJx3⟩)
      · have HO3 := hide (owns_rd hk3 HO.out)
        have Hrd3 := hide (Hrd.out.trans hk3)
        obtain ⟨cl3, kd3⟩ := HK2.out W3 Hrd3.out
        have kc3 := kd3 i hlt
        have HJ3 := hide hJ3
        have hsz3 : W.heap.size ≤ W3.heap.size := Nat.le_trans hsz hk3.size
        have Hki := hide (hk i hlt)
        clear hJ3 hk3 kd3 HO Hrd cl hy HR
        have hLL : L.length ≤ 1048576 := by have := HLi.out; omega
        have HP : Hid (popF ((kid i).toNat :: sOf L) = popF (sOf (L ++ [kid i]))) := by show _ = _; rw [sOf_push]
        generalize hkk : kid i = kk at *
        clear hkk
        gi_wp2_with (gi_at_builtin; refine wpListIn_append_own _ rfl _ _ 31 rfl W.heap.size 3 i0 (.int .i64 0) 1 8 Try.underlying31 hi hz0 hz1 hz2 rfl (by decide) _ _ _ rfl (HO3.out.alloc _) ⟨W3.heap.size, 0, none⟩ 1 1 [.int .i64 kk] rfl rfl (cell_one_new _ _ _) (iys_one _) (by unfold maxLen; omega) (by omega) (by simp; omega) ?_; intro v' w4 hown' hgrow hnil)
        have HB4 := hide (below_append hsz3 HO3.out hgrow)
        have HO4 : Hid (w4.ownsRow W.heap.size 3 1 v' (L ++ [kk]).length (iys (L ++ [kk]))) := by
          show World.ownsRow _ _ _ _ _ _ _
          simpa [iys] using hown'
        have hsz4 : W.heap.size ≤ w4.heap.size := Nat.le_trans hsz3 HB4.out.size
        have HJ4 := hide (hJ _ W3 w4 HJ3.out HB4.out)
        have Hrd4 := hide (rd_below Hrd3.out HB4.out)
        clear hown' hgrow hnil HO3 Hrd3 HJ3 cl3 kc3
        gi_loopw [4] (fun v wq => wq = w4 ∧ ∃ M : List Int, M.length ≤ L.length + 1 ∧ popF (sOf M) = popF ((kk).toNat :: sOf L) ∧ w4.ownsRow W.heap.size 3 1 v M.length (iys M) ∧ (∀ c, c ∈ M → c ∈ L ∨ c = kk)) (fun v _ => match v with | .slice _ k _ => k | _ => 0)
        case atStart => exact ⟨rfl, L ++ [kk], by simp, HP.out.symm, HO4.out, fun c hc => by simpa using hc⟩
        case round =>
          clear HO4 HP
          obtain ⟨rfl, M, hM1, hM2, hMO, hM3⟩ := hrel
          have HM2 := hide hM2
          have HM3 := hide hM3
          clear hM2 hM3
          rcases list_last M with rfl | ⟨M', c, rfl⟩
          · obtain ⟨ma, mc, rfl⟩ := owns_slice hMO
            clear hMO
            gi_wp2
            refine bodyPost_ret (results_none rfl _ _ _) rfl ?_
            refine ⟨⟨_, rfl⟩, .inl ⟨pre ++ [⟨(i, L.length), hlt⟩], ?_, HJ4.out⟩⟩
            rw [← HT.out, HF.out, ← HM2.out, List.map_append]
            rfl
          · obtain ⟨g, gc, rfl, hgB, hgc, hgc2, cc, cf⟩ := owns_last hMO
            have HMO := hide hMO
            have hlen : (M' ++ [c]).length = M'.length + 1 := by simp
            rw [hlen] at hgc hM1
            have hp1 : (0 : Int) < (M'.length : Int) + 1 := by omega
            have hq1 : (0 : Int) ≤ (M'.length : Int) + 1 - 1 := by omega
            have HgB := hide hgB
            clear hMO hgB
            by_cases hc : c ≤ 0
            · rw [hlen]
              have HMO2 := hide (owns_cut HMO.out)
              have HM5 : Hid (popF (sOf M') = popF (kk.toNat :: sOf L)) := by show _ = _; rw [← HM2.out, popF_low hc]
              gi_wp2
              go_roundw
              case rel => exact ⟨by trivial, M', by omega, HM5.out, HMO2.out, fun c' h => HM3.out c' (by simp [h])⟩
              case measure => simp
            · have hc1 : 0 < c := by omega
              have hcb : c ≤ 9223372036854775807 := by
                rcases HM3.out c (by simp) with h | h
                · exact HLc.out c h
                · rw [h]; exact Hki.out
              have hz : ((M'.length : Int) + 1 == 0) = false := by simp; omega
              have HO6 := hide (owns_setLast HMO.out (c - 1))
              have HB6 : Hid (Below W.heap.size wr (wr.setCell ⟨g, M'.length, none⟩ (.int .i64 (c - 1)))) := below_touch (Below.refl _ _) ((Touch.refl g wr).set M'.length _) HgB.out
              rw [hlen]
              gi_wp2
              go_roundw
              case rel =>
                refine ⟨i + 1, M' ++ [c - 1], pre ++ [⟨(i, L.length), hlt⟩], by go_num, by omega, by omega, by have := HLi.out; simp; omega, fun c' h => ?_, by have := Hpi.out; simp; omega, ?_, ?_, hJ _ wr _ HJ4.out HB6.out, Nat.le_trans hsz4 HB6.out.size, rd_below Hrd4.out HB6.out⟩
                · rcases List.mem_append.1 h with h | h
                  · rcases HM3.out c' (by simp [h]) with h' | h'
                    · exact HLc.out c' h'
                    · rw [h']; exact Hki.out
                  · simp at h; omega
                · have := HO6.out
                  rw [show (M' ++ [c - 1]).length = M'.length + 1 by simp] at this ⊢
                  exact this
                · rw [← HT.out, HF.out, ← HM2.out, popF_high hc1, List.map_append, List.append_assoc]
                  rfl
              case measure => simp [intOf]; omega
      · gi_wp2
        go_end0
        refine ⟨⟨_, rfl⟩, .inr ⟨pre ++ [⟨(i, L.length), hlt⟩], ?_, hJx3⟩⟩
        rw [← HT.out, HF.out, List.map_append]
        exact ⟨_, by rw [List.append_assoc]; rfl⟩
    · obtain rfl : i = m := by omega
      gi_wp2
      refine ⟨fun _ h => (by cases h), ?_⟩
      gi_wp2
      go_end0
      refine ⟨⟨_, rfl⟩, .inl ⟨pre, ?_, hJp⟩⟩
      have h := HT.out
      rw [Nat.sub_self, trP, List.append_nil] at h
      exact h

theorem below_any (a : Option Addr) (n cap : Nat) (top : Int) (w : World) :
    Calls Try.prog 30 #[.slice a n cap, .int .i64 top] w fun e w' => e = .returned (.func (.func 61) #[] #[.pointer (some ⟨w.heap.size + 1, 0, none⟩), .pointer (some ⟨w.heap.size, 0, none⟩)]) ∧ w' = (w.alloc (.cells #[.slice a n cap] 24)).alloc (.cells #[.int .i64 top] 3) := by
  go_enter Try.func30, Try.ntmps30
  go_wp2
  go_ret
  exact ⟨rfl, rfl⟩

end Go.Proofs.Ytboaiojapgiedaa
