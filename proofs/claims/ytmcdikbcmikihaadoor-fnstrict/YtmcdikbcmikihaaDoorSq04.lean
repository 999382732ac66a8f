/- Walks: the program's iterator below: what it tells, whatever its caller does with it. Walks: the program's itemOk. Walks: the program's TreeOk. Walks: the law's own helper markItemS over a copied list of items: it turns nothing but the copy. -/
import Derived.Shelf.Abstract
import Derived.Shelf.RegionOpen
import Derived.WalkKit
import Derived.OwnWalkIn
import Derived.TacticsInMore
import Derived.LoopNIn
import Derived.LoopIn
import Derived.Maps.AppendAt
import Derived.Test.YtmcdikbcmikihaaDoorSq03
import Derived.Test.YtmcdikbcmikihaaDoorRows
import Derived.ProofKit
import Derived.OpenShut
import Derived.ChangeOld
import Derived.Below
import Derived.Test.YtmcdikbcmikihaaDoorChecked
import Derived.Test.YtmcdikbcmikihaaDoorSq01
import Derived.Test.YtmcdikbcmikihaaDoorSq02
namespace Go.Proofs.YtmcdikbcmikihaaDoor

section
set_option linter.unusedVariables false
set_option linter.unusedSimpArgs false

open Go.RowKit Go.Shelf

attribute [local go_sem] Oper.semAt_some

/-- Numbers as cells. -/
def iys (L : List Int) : List Value := L.map (.int .i64)

/-- The stack that a list of numbers is, the innermost first. -/
def sOf (L : List Int) : List Nat := (L.map Int.toNat).reverse

theorem sOf_push (L : List Int) (k : Int) : sOf (L ++ [k]) = k.toNat :: sOf L := by simp [sOf]

theorem sOf_len (L : List Int) : (sOf L).length = L.length := by simp [sOf]

theorem iys_one (x : Int) : ∀ u ∈ [Value.int .i64 x], u.oneCell' = true := by
  intro u hu
  simp at hu
  subst hu
  rfl

/-- The Kids of n items in memory. -/
def KidAt (w : World) (b off n : Nat) (kid : Nat → Int) : Prop := ∀ i, i < n → w.cell? ⟨b, off + i * 3 + 2, none⟩ = some (.int .i64 (kid i))

/-- What an iterator of n items tells: a place that is one, and how many are around. -/
abbrev Pl (n : Nat) := { p : Nat × Nat // p.1 < n }

def encP {n : Nat} (p : Pl n) : Array Value := #[.int .i64 (p.1.1 : Int), .int .i64 (p.1.2 : Int)]

/-- The blocks that the iterator reads. -/
def XB (CT CL b : Nat) (k : Nat) : Prop := k = CT ∨ k = CL ∨ k = b

theorem owns_rd {X : Nat → Prop} {B : Nat} {W W' : World} (h : Rd X B W W') {e n : Nat} {v : Value} {xs : List Value} (ho : W.ownsRow B e 1 v n xs) : W'.ownsRow B e 1 v n xs := by
  refine ⟨ho.1, ?_⟩
  rcases ho.2 with h0 | ⟨g, cap, cur, rfl, hb, hg, rest⟩
  · exact .inl h0
  · exact .inr ⟨g, cap, cur, rfl, hb, (h.same g (.inl hb) (Array.getElem?_eq_some_iff.1 hg).1).trans hg, rest⟩

theorem below_append {B : Nat} {wr w1 : World} {o : Obj} {e n : Nat} {v : Value} {xs : List Value} (hb : B ≤ wr.heap.size) (ho : wr.ownsRow B e 1 v n xs) (hg : (wr.alloc o).grownBy w1 v.ownBlock) : Below B wr w1 :=
  ((Below.refl B wr).alloc hb o).grown hg (by simp; omega) (fun j hj => (ho.lt j hj).1)

/-- The list less its last. -/
theorem owns_cut {w : World} {B g cap : Nat} {L : List Int} {c : Int} (h : w.ownsRow B 3 1 (.slice (some ⟨g, 0, none⟩) (L ++ [c]).length cap) (L ++ [c]).length (iys (L ++ [c]))) : w.ownsRow B 3 1 (.slice (some ⟨g, 0, none⟩) L.length cap) L.length (iys L) := by
  rcases h.2 with ⟨h0, _⟩ | ⟨g', cap', cur, hv, hb, hg, h1, h2, h3, h4⟩
  · simp at h0
  · simp only [Value.slice.injEq, Option.some.injEq, Addr.mk.injEq] at hv
    obtain ⟨⟨rfl, -, -⟩, -, rfl⟩ := hv
    refine ⟨by simp [iys], .inr ⟨g, cap, cur, rfl, hb, hg, by simp at h1; omega, h2, h3, ?_⟩⟩
    have h5 : cur.toList.take (L.length + 1) = iys (L ++ [c]) := by simpa using h4
    have h6 : (cur.toList.take (L.length + 1)).take L.length = cur.toList.take L.length := by rw [List.take_take, Nat.min_eq_left (by omega)]
    rw [Nat.mul_one, ← h6, h5]
    simp [iys]

theorem owns_last {w : World} {B : Nat} {v : Value} {L : List Int} {c : Int} (h : w.ownsRow B 3 1 v (L ++ [c]).length (iys (L ++ [c]))) :
    ∃ g cap, v = .slice (some ⟨g, 0, none⟩) (L ++ [c]).length cap ∧ B ≤ g ∧ (L ++ [c]).length ≤ cap ∧ cap ≤ 9223372036854775807 ∧ w.cell? ⟨g, L.length, none⟩ = some (.int .i64 c) ∧ w.frozen? ⟨g, L.length, none⟩ = false := by
  have h' := h
  rcases h.2 with ⟨_, h0⟩ | ⟨g, cap, cur, rfl, hb, hg, h1, h2, h3, h4⟩
  · simp at h0
  · refine ⟨g, cap, rfl, hb, h1, by unfold maxLen at h2; omega, ?_, World.ownsRow.frozenAt h' _⟩
    rw [World.ownsRow.cellAt h' L.length (by simp)]
    simp [iys]

theorem owns_setLast {w : World} {B g cap : Nat} {L : List Int} {c : Int} (h : w.ownsRow B 3 1 (.slice (some ⟨g, 0, none⟩) (L ++ [c]).length cap) (L ++ [c]).length (iys (L ++ [c]))) (x : Int) :
    (w.setCell ⟨g, L.length, none⟩ (.int .i64 x)).ownsRow B 3 1 (.slice (some ⟨g, 0, none⟩) (L ++ [x]).length cap) (L ++ [x]).length (iys (L ++ [x])) := by
  have := (World.ownsRow.stored h L.length (.int .i64 x)).1
  rw [show (iys (L ++ [c])).set L.length (.int .i64 x) = iys (L ++ [x]) by simp [iys, List.set_append]] at this
  rw [show (L ++ [x]).length = (L ++ [c]).length by simp]
  exact this

theorem rd_below {X : Nat → Prop} {W wr w1 : World} (h : Rd X W.heap.size W wr) (k : Below W.heap.size wr w1) : Rd X W.heap.size W w1 :=
  ⟨k.os.trans h.os, k.tape.trans h.tape, k.output.trans h.output, Nat.le_trans h.size k.size, fun i hi hl => (k.block i hl).trans (h.same i hi hl)⟩

theorem owns_slice {w : World} {B n : Nat} {v : Value} {xs : List Value} (h : w.ownsRow B 3 1 v n xs) : ∃ a c, v = .slice a n c := by
  rcases h.2 with ⟨rfl, rfl⟩ | ⟨g, cap, cur, rfl, _⟩
  · exact ⟨_, _, rfl⟩
  · exact ⟨_, _, rfl⟩

theorem popF_low {L : List Int} {c : Int} (h : c ≤ 0) : popF (sOf (L ++ [c])) = popF (sOf L) := by
  rw [sOf_push, show c.toNat = 0 by omega]; rfl

theorem popF_high {L : List Int} {c : Int} (h : 0 < c) : popF (sOf (L ++ [c])) = some (sOf (L ++ [c - 1])) := by
  rw [sOf_push, sOf_push, show c.toNat = (c - 1).toNat + 1 by omega]; rfl

theorem list_last (L : List Int) : L = [] ∨ ∃ M c, L = M ++ [c] := by
  rcases List.eq_nil_or_concat L with h | ⟨M, c, h⟩
  · exact .inl h
  · exact .inr ⟨M, c, by simpa using h⟩

set_option maxHeartbeats 6400000 in
set_option maxRecDepth 100000 in
theorem below1_in (n : Nat) (hn1 : 1 ≤ n) (m top CT CL b off cap : Nat) (kid : Nat → Int) (w0 : World) (htop : top ≤ m) (hm : m ≤ 1048576) (hm0 : 0 < m) (hCT : w0.cell? ⟨CT, 0, none⟩ = some (.int .i64 (top : Int))) (hCL : w0.cell? ⟨CL, 0, none⟩ = some (.slice (some ⟨b, off, none⟩) m cap)) (hK : KidAt w0 b off m kid) (hk : ∀ i, i < m → kid i ≤ 9223372036854775807) :
    Tells (α := Pl m) n Tryd.prog 54 #[.pointer (some ⟨CT, 0, none⟩), .pointer (some ⟨CL, 0, none⟩)] encP (fun xs => xs.map (·.1) = trP kid (m - top) top []) (fun pre => pre.map (·.1) <+: trP kid (m - top) top []) m (XB CT CL b) w0 := by
  intro l J Jx W hW hJ hJx hY h0
  have lt1 : CT < w0.heap.size := World.block_lt_of_cell? _ _ hCT
  have lt2 : CL < w0.heap.size := World.block_lt_of_cell? _ _ hCL
  have lt3 : b < w0.heap.size := World.block_lt_of_cell? _ _ (hK 0 hm0)
  have a1 : ∀ o, (W.alloc o).cell? ⟨CT, 0, none⟩ = some (.int .i64 (top : Int)) := fun o => (Below.cell (hW.trans ((Below.refl _ _).alloc hW.size o)) (p := ⟨CT, 0, none⟩) lt1).trans hCT
  obtain ⟨i0, hi, hz0, hz1, hz2⟩ := info_parts Tryd.info3
  refine callsIn_of_wp Tryd.func54 rfl trivial ?_ rfl
  simp only [Tryd.ntmps54, List.size_toArray, List.length_cons, List.length_nil, Nat.reduceAdd, Nat.reduceSub, Array.replicate_succ, Array.replicate_zero, List.push_toArray, List.append_toArray, List.nil_append, List.cons_append]
  gi_wp2
  have hO0 : Hid ((W.alloc (.cells #[] 3)).ownsRow W.heap.size 3 1 (.slice (some ⟨W.heap.size, 0, none⟩) 0 0) 0 []) := World.ownsRow_made (base := W.heap.size) (e := 3) (size := 1) W #[] 0 (Nat.le_refl _) (by simp) rfl
  have HK2 : Hid (∀ wr, Rd (XB CT CL b) W.heap.size W wr → wr.cell? ⟨CL, 0, none⟩ = some (.slice (some ⟨b, off, none⟩) m cap) ∧ KidAt wr b off m kid) := by
    intro wr hr
    have hs := hW.size
    refine ⟨?_, fun i hi => ?_⟩
    · rw [World.cell?_of_block (a := ⟨CL, 0, none⟩) (hr.same CL (.inr (.inr (.inl rfl))) (by omega))]
      exact (hW.cell (p := ⟨CL, 0, none⟩) lt2).trans hCL
    · rw [World.cell?_of_block (a := ⟨b, off + i * 3 + 2, none⟩) (hr.same b (.inr (.inr (.inr rfl))) (by omega))]
      exact (hW.cell (p := ⟨b, off + i * 3 + 2, none⟩) lt3).trans (hK i hi)
  gi_loopw [4, 5] (fun v p wr => ∃ (i : Nat) (L : List Int) (pre : List (Pl m)), p = .int .i64 (i : Int) ∧ top ≤ i ∧ i ≤ m ∧ L.length ≤ i ∧ (∀ c, c ∈ L → c ≤ 9223372036854775807) ∧ pre.length ≤ i ∧ wr.ownsRow W.heap.size 3 1 v L.length (iys L) ∧ pre.map (·.1) ++ trP kid (m - i) i (sOf L) = trP kid (m - top) top [] ∧ J pre wr ∧ W.heap.size ≤ wr.heap.size ∧ Rd (XB CT CL b) W.heap.size W wr) (fun _ p _ => m - (intOf p).toNat)
  case atStart => exact ⟨top, [], [], rfl, Nat.le_refl _, htop, Nat.zero_le _, fun c hc => by simp at hc, Nat.zero_le _, hO0.out, rfl, hJ [] W _ h0 ((Below.refl _ _).alloc (Nat.le_refl _) _), by simp, rd_below (Rd.refl _ _ _) ((Below.refl _ _).alloc (Nat.le_refl _) _)⟩
  case round =>
    clear hO0 a1
    obtain ⟨i, L, pre, rfl, hti, him, hLi, hLc, hpi, hO, hT, hJp, hsz, hrd⟩ := hrel
    have HLc := hide hLc
    clear hLc
    obtain ⟨va, vc, rfl⟩ := owns_slice hO
    obtain ⟨cl, kd⟩ := HK2.out wr hrd
    have HO := hide hO
    have HT := hide hT
    have Hrd := hide hrd
    have Hpi := hide hpi
    have HLi := hide hLi
    clear hO hT hrd kd hpi hLi
    by_cases hlt : i < m
    · have hlt' : (i : Int) < (m : Int) := by omega
      obtain ⟨fn, tmps, assign, body, hy, hR⟩ := hY pre ⟨(i, L.length), hlt⟩ wr hJp hsz (by have := Hpi.out; omega)
      simp only [encP] at hy
      have HR := hide hR
      clear hR
      have HF : Hid (trP kid (m - i) i (sOf L) = (i, L.length) :: match popF ((kid i).toNat :: sOf L) with | none => [] | some st' => trP kid (m - (i + 1)) (i + 1) st') := by
        show _ = _
        rw [show m - i = (m - (i + 1)) + 1 by omega, trP, sOf_len]
        all_goals (cases popF ((kid i).toNat :: sOf L) <;> rfl)
      gi_wp2
      refine HR.out.mono ?_
      rintro e W3 (⟨rfl, hJ3, hk3⟩ | ⟨rfl, hJx3⟩)
      · have HO3 := hide (owns_rd hk3 HO.out)
        have Hrd3 := hide (Hrd.out.trans hk3)
        obtain ⟨cl3, kd3⟩ := HK2.out W3 Hrd3.out
        have kc3 := kd3 i hlt
        have HJ3 := hide hJ3
        have hsz3 : W.heap.size ≤ W3.heap.size := Nat.le_trans hsz hk3.size
        have Hki := hide (hk i hlt)
        clear hJ3 hk3 kd3 HO Hrd cl hy HR
        have hLL : L.length ≤ 1048576 := by have := HLi.out; omega
        have HP : Hid (popF ((kid i).toNat :: sOf L) = popF (sOf (L ++ [kid i]))) := by show _ = _; rw [sOf_push]
        generalize hkk : kid i = kk at *
        clear hkk
        gi_wp2_with (gi_at_builtin; refine wpListIn_append_own _ rfl _ _ 36 rfl W.heap.size 3 i0 (.int .i64 0) 1 8 Tryd.underlying36 hi hz0 hz1 hz2 rfl (by decide) _ _ _ rfl (HO3.out.alloc _) ⟨W3.heap.size, 0, none⟩ 1 1 [.int .i64 kk] rfl rfl (cell_one_new _ _ _) (iys_one _) (by unfold maxLen; omega) (by omega) (by simp; omega) ?_; intro v' w4 hown' hgrow hnil)
        have HB4 := hide (below_append hsz3 HO3.out hgrow)
        have HO4 : Hid (w4.ownsRow W.heap.size 3 1 v' (L ++ [kk]).length (iys (L ++ [kk]))) := by
          show World.ownsRow _ _ _ _ _ _ _
          simpa [iys] using hown'
        have hsz4 : W.heap.size ≤ w4.heap.size := Nat.le_trans hsz3 HB4.out.size
        have HJ4 := hide (hJ _ W3 w4 HJ3.out HB4.out)
        have Hrd4 := hide (rd_below Hrd3.out HB4.out)
        clear hown' hgrow hnil HO3 Hrd3 HJ3 cl3 kc3
        gi_loopw [4] (fun v wq => wq = w4 ∧ ∃ M : List Int, M.length ≤ L.length + 1 ∧ popF (sOf M) = popF ((kk).toNat :: sOf L) ∧ w4.ownsRow W.heap.size 3 1 v M.length (iys M) ∧ (∀ c, c ∈ M → c ∈ L ∨ c = kk)) (fun v _ => match v with | .slice _ k _ => k | _ => 0)
        case atStart => exact ⟨rfl, L ++ [kk], by simp, HP.out.symm, HO4.out, fun c hc => by simpa using hc⟩
        case round =>
          clear HO4 HP
          obtain ⟨rfl, M, hM1, hM2, hMO, hM3⟩ := hrel
          have HM2 := hide hM2
          have HM3 := hide hM3
          clear hM2 hM3
          rcases list_last M with rfl | ⟨M', c, rfl⟩
          · obtain ⟨ma, mc, rfl⟩ := owns_slice hMO
            clear hMO
            gi_wp2
            refine bodyPost_ret (results_none rfl _ _ _) rfl ?_
            refine ⟨⟨_, rfl⟩, .inl ⟨pre ++ [⟨(i, L.length), hlt⟩], ?_, HJ4.out⟩⟩
            rw [← HT.out, HF.out, ← HM2.out, List.map_append]
            rfl
          · obtain ⟨g, gc, rfl, hgB, hgc, hgc2, cc, cf⟩ := owns_last hMO
            have HMO := hide hMO
            have hlen : (M' ++ [c]).length = M'.length + 1 := by simp
            rw [hlen] at hgc hM1
            have hp1 : (0 : Int) < (M'.length : Int) + 1 := by omega
            have hq1 : (0 : Int) ≤ (M'.length : Int) + 1 - 1 := by omega
            have HgB := hide hgB
            clear hMO hgB
            by_cases hc : c ≤ 0
            · rw [hlen]
              have HMO2 := hide (owns_cut HMO.out)
              have HM5 : Hid (popF (sOf M') = popF (kk.toNat :: sOf L)) := by show _ = _; rw [← HM2.out, popF_low hc]
              gi_wp2
              go_roundw
              case rel => exact ⟨by trivial, M', by omega, HM5.out, HMO2.out, fun c' h => HM3.out c' (by simp [h])⟩
              case measure => simp
            · have hc1 : 0 < c := by omega
              have hcb : c ≤ 9223372036854775807 := by
                rcases HM3.out c (by simp) with h | h
                · exact HLc.out c h
                · rw [h]; exact Hki.out
              have hz : ((M'.length : Int) + 1 == 0) = false := by simp; omega
              have HO6 := hide (owns_setLast HMO.out (c - 1))
              have HB6 : Hid (Below W.heap.size wr (wr.setCell ⟨g, M'.length, none⟩ (.int .i64 (c - 1)))) := below_touch (Below.refl _ _) ((Touch.refl g wr).set M'.length _) HgB.out
              rw [hlen]
              gi_wp2
              go_roundw
              case rel =>
                refine ⟨i + 1, M' ++ [c - 1], pre ++ [⟨(i, L.length), hlt⟩], by go_num, by omega, by omega, by have := HLi.out; simp; omega, fun c' h => ?_, by have := Hpi.out; simp; omega, ?_, ?_, hJ _ wr _ HJ4.out HB6.out, Nat.le_trans hsz4 HB6.out.size, rd_below Hrd4.out HB6.out⟩
                · rcases List.mem_append.1 h with h | h
                  · rcases HM3.out c' (by simp [h]) with h' | h'
                    · exact HLc.out c' h'
                    · rw [h']; exact Hki.out
                  · simp at h; omega
                · have := HO6.out
                  rw [show (M' ++ [c - 1]).length = M'.length + 1 by simp] at this ⊢
                  exact this
                · rw [← HT.out, HF.out, ← HM2.out, popF_high hc1, List.map_append, List.append_assoc]
                  rfl
              case measure => simp [intOf]; omega
      · gi_wp2
        go_end0
        refine ⟨⟨_, rfl⟩, .inr ⟨pre ++ [⟨(i, L.length), hlt⟩], ?_, hJx3⟩⟩
        rw [← HT.out, HF.out, List.map_append]
        exact ⟨_, by rw [List.append_assoc]; rfl⟩
    · obtain rfl : i = m := by omega
      gi_wp2
      refine ⟨fun _ h => (by cases h), ?_⟩
      gi_wp2
      go_end0
      refine ⟨⟨_, rfl⟩, .inl ⟨pre, ?_, hJp⟩⟩
      have h := HT.out
      rw [Nat.sub_self, trP, List.append_nil] at h
      exact h

theorem below_any (a : Option Addr) (n cap : Nat) (top : Int) (w : World) :
    Calls Tryd.prog 31 #[.slice a n cap, .int .i64 top] w fun e w' => e = .returned (.func (.func 54) #[] #[.pointer (some ⟨w.heap.size + 1, 0, none⟩), .pointer (some ⟨w.heap.size, 0, none⟩)]) ∧ w' = (w.alloc (.cells #[.slice a n cap] 23)).alloc (.cells #[.int .i64 top] 3) := by
  go_enter Tryd.func31, Tryd.ntmps31
  go_wp2
  go_ret
  exact ⟨rfl, rfl⟩
end

section
set_option linter.unusedVariables false
set_option linter.unusedSimpArgs false

open Go.RowKit

theorem and32 {x : Int} (h0 : 0 ≤ x) (h1 : x ≤ 255) : (bits .and .i64 x 32 != 0) = decide (x / 32 % 2 = 1) := by
  have h : ∀ n : Nat, n < 256 → (bits .and .i64 (n : Int) 32 != 0) = decide ((n : Int) / 32 % 2 = 1) := by decide +kernel
  have := h x.toNat (by omega)
  rwa [show ((x.toNat : Nat) : Int) = x by omega] at this

theorem and31 {x : Int} (h0 : 0 ≤ x) (h1 : x ≤ 255) : (bits .and .i64 x 31 != 31) = decide (x % 32 ≠ 31) := by
  have h : ∀ n : Nat, n < 256 → (bits .and .i64 (n : Int) 31 != 31) = decide ((n : Int) % 32 ≠ 31) := by decide +kernel
  have := h x.toNat (by omega)
  rwa [show ((x.toNat : Nat) : Int) = x by omega] at this

theorem isMade_any (t : Int) (w : World) (t0 : 0 ≤ t) (t1 : t ≤ 255) : Calls Tryd.prog 35 #[.int .i64 t] w fun e w' => e = .returned (.bool (decide (t / 32 % 2 = 1))) ∧ w' = w := by
  go_enter Tryd.func35, Tryd.ntmps35
  go_wp2
  go_ret
  exact ⟨ret_bool (and32 t0 t1), rfl⟩

theorem tagOk_any (t : Int) (w : World) (t0 : 0 ≤ t) (t1 : t ≤ 255) : Calls Tryd.prog 56 #[.int .i64 t] w fun e w' => e = .returned (.bool (decide (t % 32 ≠ 31))) ∧ w' = w := by
  go_enter Tryd.func56, Tryd.ntmps56
  go_wp2
  go_ret
  exact ⟨ret_bool (and31 t0 t1), rfl⟩

set_option maxHeartbeats 1600000 in
theorem itemOk_any (x : It) (w : World) (hn : x.len ≤ 9223372036854775807) :
    Calls Tryd.prog 33 #[itV x] w fun e w' => e = .returned (.bool (decide (itP x))) ∧ Ext w w' := by
  obtain ⟨V, hV⟩ : ∃ V, w.alloc (.cells #[.int .i64 x.tag, .slice x.ad x.len x.cap, .int .i64 x.kid] 55) = V := ⟨_, rfl⟩
  obtain ⟨B1, hE, -⟩ := box1 w [.int .i64 x.tag, .slice x.ad x.len x.cap, .int .i64 x.kid] 55 (w1 := V) (by rw [← hV]; exact Ext.refl _)
  have a0 := (B1 0 _ rfl).1
  have a1 := (B1 1 _ rfl).1
  have a2 := (B1 2 _ rfl).1
  have HE := hide hE
  clear B1 hE
  show Calls Tryd.prog 33 #[.agg #[.int .i64 x.tag, .slice x.ad x.len x.cap, .int .i64 x.kid]] w _
  obtain ⟨F, hF⟩ : ∃ F, decide (itP x) = F := ⟨_, rfl⟩
  rw [hF]
  have HF : Hid (F = decide (0 ≤ x.tag ∧ x.tag ≤ 255 ∧ x.tag % 32 ≠ 31 ∧ (x.tag / 32 % 2 = 1 → 0 ≤ x.kid ∧ x.len = 0) ∧ (x.tag / 32 % 2 ≠ 1 → x.kid = 0))) := hide (by rw [← hF]; rfl)
  clear hF
  generalize x.tag = t at *
  generalize x.kid = c at *
  generalize x.len = q at *
  by_cases hA : t < 0
  · go_enter Tryd.func33, Tryd.ntmps33
    go_wp2
    go_ret
    exact ⟨ret_bool (by rw [HF.out]; symm; exact decide_eq_false (by omega)), HE.out⟩
  · by_cases hB : 255 < t
    · go_enter Tryd.func33, Tryd.ntmps33
      go_wp2
      go_ret
      exact ⟨ret_bool (by rw [HF.out]; symm; exact decide_eq_false (by omega)), HE.out⟩
    · have HT := hide (fun W => tagOk_any t W (by omega) (by omega))
      have HM := hide (fun W => isMade_any t W (by omega) (by omega))
      by_cases hC : t % 32 = 31
      · rw [show decide (t % 32 ≠ 31) = false by simp [hC]] at HT
        go_enter Tryd.func33, Tryd.ntmps33
        go_wp2_with fail
        refine (HT.out _).mono ?_
        rintro e w1 ⟨rfl, hw1⟩
        subst hw1
        go_wp2
        go_ret
        exact ⟨ret_bool (by rw [HF.out]; symm; exact decide_eq_false (by omega)), HE.out⟩
      · rw [show decide (t % 32 ≠ 31) = true by simp [hC]] at HT
        by_cases hM : t / 32 % 2 = 1
        · rw [show decide (t / 32 % 2 = 1) = true by simp [hM]] at HM
          by_cases hk : 0 ≤ c
          · go_enter Tryd.func33, Tryd.ntmps33
            go_wp2_with fail
            refine (HT.out _).mono ?_
            rintro e w1 ⟨rfl, hw1⟩
            subst hw1
            go_wp2_with fail
            refine (HM.out _).mono ?_
            rintro e w1 ⟨rfl, hw1⟩
            subst hw1
            go_wp2
            go_ret
            exact ⟨ret_bool (by rw [HF.out, Bool.eq_iff_iff]; simp; omega), HE.out⟩
          · go_enter Tryd.func33, Tryd.ntmps33
            go_wp2_with fail
            refine (HT.out _).mono ?_
            rintro e w1 ⟨rfl, hw1⟩
            subst hw1
            go_wp2_with fail
            refine (HM.out _).mono ?_
            rintro e w1 ⟨rfl, hw1⟩
            subst hw1
            go_wp2
            go_ret
            exact ⟨ret_bool (by rw [HF.out]; symm; exact decide_eq_false (by omega)), HE.out⟩
        · rw [show decide (t / 32 % 2 = 1) = false by simp [hM]] at HM
          go_enter Tryd.func33, Tryd.ntmps33
          go_wp2_with fail
          refine (HT.out _).mono ?_
          rintro e w1 ⟨rfl, hw1⟩
          subst hw1
          go_wp2_with fail
          refine (HM.out _).mono ?_
          rintro e w1 ⟨rfl, hw1⟩
          subst hw1
          go_wp2
          go_ret
          exact ⟨ret_bool (by rw [HF.out, Bool.eq_iff_iff]; simp; omega), HE.out⟩
end

section
set_option linter.unusedVariables false
set_option linter.unusedSimpArgs false

open Go.RowKit Go.Shelf

attribute [local go_sem] Oper.semAt_some

theorem rd_ext {X : Nat → Prop} {B : Nat} {W W' : World} (h : Ext W W') : Rd X B W W' := ⟨h.os, h.tape, h.output, h.size, fun k _ hk => h.block k hk⟩

theorem rd_set {X : Nat → Prop} {B : Nat} {W W' : World} (h : Rd X B W W') {k o : Nat} (hk : k < B) (hx : ¬ X k) (v : Value) : Rd X B W (W'.setCell ⟨k, o, none⟩ v) :=
  h.trans ⟨rfl, rfl, rfl, by simp [World.setCell], fun j hj _ => Below.heap_setCell _ _ _ _ (by rintro rfl; rcases hj with hj | hj; exact absurd hj (by simp; omega); exact hx hj)⟩

theorem cell_set_other {W : World} {k k' o o' : Nat} (v : Value) (h : k ≠ k') : (W.setCell ⟨k, o, none⟩ v).cell? ⟨k', o', none⟩ = W.cell? ⟨k', o', none⟩ :=
  World.cell?_setCell_other _ _ _ _ (fun e => h (by have := congrArg Addr.block e; simp at this; omega))

theorem load_bool {W : World} {q : Addr} {v : Value} (h : W.cell? q = some v) : (loadVar 4 q).run Tryd.prog W = .ok v W := by
  have ha : (isAgg 4).run Tryd.prog W = .ok false W := by kernel_rfl
  simp [loadVar, Sem.run_bind, ha, load, h, Result.andThen, Sem.run]

theorem results_one {P : Program} {fn : Func} {a : Nat} {T : TypeId} (hf : fn.results = #[.cell a T]) {tmps : Array Value} {q : Addr} {v : Value} {W : World} (ht : tmps.getD a undef = .pointer (some q)) (hl : (loadVar T q).run P W = .ok v W) : (results fn tmps).run P W = .ok v W := by
  unfold results
  rw [hf]
  rw [Array.getD_eq_getD_getElem?] at ht
  simp [ht, asAddr, hl, Sem.run_bind, Sem.run_pure, Result.andThen_ok]

/-- What TreeOk's own cells hold between two rounds. -/
structure TrI0 (w : World) (v : Int) (a : Option Addr) (n cap : Nat) (W : World) : Prop where
  c2 : W.cell? ⟨w.heap.size + 1 + 1, 0, none⟩ = some (.int .i64 v)
  f2 : W.frozen? ⟨w.heap.size + 1 + 1, 0, none⟩ = false
  c1 : W.cell? ⟨w.heap.size + 1, 0, none⟩ = some (.bool false)
  f1 : W.frozen? ⟨w.heap.size + 1, 0, none⟩ = false
  c0 : W.cell? ⟨w.heap.size, 0, none⟩ = some (.slice a n cap)
  ext : Ext w W

theorem TrI0.low {w : World} {v : Int} {a : Option Addr} {n cap B : Nat} (hB : w.heap.size + 5 ≤ B) {W W' : World} (h : TrI0 w v a n cap W) (k : Below B W W') : TrI0 w v a n cap W' :=
  ⟨(k.cell (p := ⟨w.heap.size + 1 + 1, 0, none⟩) (by simp; omega)).trans h.c2, (k.frozen (p := ⟨w.heap.size + 1 + 1, 0, none⟩) (by simp; omega)).trans h.f2,
   (k.cell (p := ⟨w.heap.size + 1, 0, none⟩) (by simp; omega)).trans h.c1, (k.frozen (p := ⟨w.heap.size + 1, 0, none⟩) (by simp; omega)).trans h.f1,
   (k.cell (p := ⟨w.heap.size, 0, none⟩) (by simp; omega)).trans h.c0, Below.trans h.ext (k.mono (by omega))⟩

theorem TrI0.set1 {w : World} {v : Int} {a : Option Addr} {n cap : Nat} {W : World} (h : TrI0 w v a n cap W) : TrI0 w v a n cap (W.setCell ⟨w.heap.size + 1, 0, none⟩ (.bool false)) :=
  ⟨by rw [cell_set_other _ (by omega)]; exact h.c2, by rw [World.frozen?_setCell]; exact h.f2, World.cell?_setCell_same _ _ _ h.c1, by rw [World.frozen?_setCell]; exact h.f1, by rw [cell_set_other _ (by omega)]; exact h.c0, below_touch h.ext ((Touch.refl (w.heap.size + 1) W).set 0 _) (by omega)⟩

theorem TrI0.set2 {w : World} {v : Int} {a : Option Addr} {n cap : Nat} {W : World} (h : TrI0 w v a n cap W) (v' : Int) : TrI0 w v' a n cap (W.setCell ⟨w.heap.size + 1 + 1, 0, none⟩ (.int .i64 v')) :=
  ⟨World.cell?_setCell_same _ _ _ h.c2, by rw [World.frozen?_setCell]; exact h.f2, by rw [cell_set_other _ (by omega)]; exact h.c1, by rw [World.frozen?_setCell]; exact h.f1, by rw [cell_set_other _ (by omega)]; exact h.c0, below_touch h.ext ((Touch.refl (w.heap.size + 1 + 1) W).set 0 _) (by omega)⟩

set_option maxHeartbeats 6400000 in
set_option maxRecDepth 100000 in
theorem implTree_any (a : Option Addr) (b off n cap : Nat) (x : Nat → It) (w : World) (hs : ISeg w a b off n x) (hn : n ≤ 1048576) (hk : ∀ i, i < n → (x i).kid ≤ 9223372036854775807) :
    Calls Tryd.prog 17 #[.slice a n cap] w fun e w' => e = .returned (.bool (treeV x n)) ∧ Ext w w' := by
  by_cases h1 : 1 ≤ n
  · have g1 : ¬ (n : Int) < 1 := by omega
    by_cases h300 : n ≤ 300
    · have g2 : ¬ (300 : Int) < (n : Int) := by omega
      obtain rfl := hs.at' (by omega)
      have ltb : b < w.heap.size := hs.lt (by omega)
      refine (callsIn_wide (n := 9)).1 ?_
      refine callsIn_of_wp_marks Tryd.func17 rfl trivial ?_
      simp only [Tryd.ntmps17, List.size_toArray, List.length_cons, List.length_nil, Nat.reduceAdd, Nat.reduceSub, Array.replicate_succ, Array.replicate_zero, List.push_toArray, List.append_toArray, List.nil_append, List.cons_append]
      gi_wp2_with (first | (gi_at_call 31; refine (callsIn_wide.2 (below_any _ _ _ _ _)).mono ?_; rintro e w1 ⟨rfl, rfl⟩) | (refine ⟨trivial, ?_⟩; gi_at_call 31; refine (callsIn_wide.2 (below_any _ _ _ _ _)).mono ?_; rintro e w1 ⟨rfl, rfl⟩))
      obtain ⟨V, hV⟩ : ∃ V, (((((w.alloc (.cells #[.slice (some ⟨b, off, none⟩) n cap] 23)).alloc (.cells #[.bool false] 4)).alloc (.cells #[.int .i64 ((n : Int) - 1)] 3)).alloc (.cells #[.slice (some ⟨b, off, none⟩) n cap] 23)).alloc (.cells #[.int .i64 0] 3)) = V := ⟨_, rfl⟩
      obtain ⟨B0, B1, B2, B3, B4, hE, hsz⟩ := box5 w [.slice (some ⟨b, off, none⟩) n cap] [.bool false] [.int .i64 ((n : Int) - 1)] [.slice (some ⟨b, off, none⟩) n cap] [.int .i64 0] 23 4 3 23 3 (w1 := V) (by rw [← hV]; exact Ext.refl _)
      have sV : V.heap.size = w.heap.size + 5 := by rw [← hV]; simp
      rw [hV]
      have hsV := hs.of_all hE
      have hseq := below1_in 8 (by omega) n 0 (w.heap.size + 1 + 1 + 1 + 1) (w.heap.size + 1 + 1 + 1) b off cap (fun i => (x i).kid) V (Nat.zero_le _) hn (by omega) (B4 0 _ rfl).1 (B3 0 _ rfl).1 (fun i hi => hsV.c2 i hi) hk
      have Hs := hide hs
      have HsV := hide hsV
      have hVs : w.heap.size + 5 ≤ V.heap.size := by omega
      have I0 : TrI0 w ((n : Int) - 1) (some ⟨b, off, none⟩) n cap V := ⟨(B2 0 _ rfl).1, (B2 0 _ rfl).2, (B1 0 _ rfl).1, (B1 0 _ rfl).2, (B0 0 _ rfl).1, hE⟩
      clear hs hsV B0 B1 B2 B3 B4
      refine range_own (n := 9) (by omega) (gf := 54) (lb := #[.pointer (some ⟨w.heap.size + 1 + 1 + 1 + 1, 0, none⟩), .pointer (some ⟨w.heap.size + 1 + 1 + 1, 0, none⟩)]) rfl (enters_of Tryd.func54 (by kernel_rfl) rfl) (w0 := V) (fun k hk => by rcases hk with h | h | h <;> omega) hseq (Below.refl _ _) (fun _ => rfl)
        (fun pre W => ∃ v, chk x (pre.map (·.1)) ((n : Int) - 1) = some v ∧ TrI0 w v (some ⟨b, off, none⟩) n cap W)
        (fun c pre W => c = .ret ∧ chk x (pre.map (·.1)) ((n : Int) - 1) = none ∧ ∃ v, TrI0 w v (some ⟨b, off, none⟩) n cap W)
        (fun s A C ⟨v, h1, h2⟩ k => ⟨v, h1, h2.low hVs k⟩) (fun c s A C ⟨h0, h1, v, h2⟩ k => ⟨h0, h1, v, h2.low hVs k⟩) ⟨_, rfl, I0⟩
        (fun p => { tmps := #[.slice (some ⟨b, off, none⟩) n cap, .pointer (some ⟨w.heap.size, 0, none⟩), .pointer (some ⟨w.heap.size + 1, 0, none⟩), .pointer (some ⟨w.heap.size + 1 + 1, 0, none⟩), .int .i64 (p.1.1 : Int), .int .i64 (p.1.2 : Int), undef, .slice (some ⟨b, off, none⟩) n cap, .int .i64 (n : Int), .bool false, .bool false, .slice (some ⟨b, off, none⟩) n cap, .int .i64 (n : Int), .bool false, .bool false, .slice (some ⟨b, off, none⟩) n cap, .int .i64 (n : Int), .int .i64 ((n : Int) - 1), .slice (some ⟨b, off, none⟩) n cap, .func (.func 54) #[] #[.pointer (some ⟨w.heap.size + 1 + 1 + 1 + 1, 0, none⟩), .pointer (some ⟨w.heap.size + 1 + 1 + 1, 0, none⟩)], .int .i64 (p.1.1 : Int), .int .i64 (p.1.2 : Int), undef, undef, undef, undef, undef, undef, undef, undef, undef, undef, undef, undef, undef, undef, undef, undef, undef, undef, undef, undef, undef, undef, undef], defers := [] }) ?assign ?body ?done ?stop
      case assign =>
        intro l p W K hK
        simp only [encP]
        gi_wp2
        exact hK
      case body =>
        rintro l pre ⟨⟨i, r⟩, hi⟩ W ⟨v, hc, hI⟩ hW2 hlen
        have hWs : w.heap.size + 5 ≤ W.heap.size := by omega
        have hsW := Hs.out.of_all hI.ext
        have a0 := hsW.c0 i hi
        have a1 := hsW.c1 i hi
        have a2 := hsW.c2 i hi
        have hin : (i : Int) < (n : Int) := by omega
        have hv := chk_range x _ _ _ (by omega) hc
        have HIt : Hid (∀ w, Calls Tryd.prog 33 #[.agg #[.int .i64 (x i).tag, .slice (x i).ad (x i).len (x i).cap, .int .i64 (x i).kid]] w fun e w' => e = .returned (.bool (decide (itP (x i)))) ∧ Ext w w') := fun w => itemOk_any (x i) w (hsW.small i hi)
        have kn : (W.alloc (.cells #[.int .i64 (x i).tag, .slice (x i).ad (x i).len (x i).cap, .int .i64 (x i).kid] 55)).cell? ⟨W.heap.size, 2, none⟩ = some (.int .i64 (x i).kid) := (Blk.alloc W [.int .i64 (x i).tag, .slice (x i).ad (x i).len (x i).cap, .int .i64 (x i).kid] 55 2 _ rfl).1
        have d0 := hI.c0
        clear hsW hseq I0 HsV Hs
        by_cases q1 : itP (x i)
        · rw [decide_eq_true q1] at HIt
          have hkid := itP_kid q1
          by_cases q2 : r ≤ 12
          · by_cases q3 : (x i).kid ≤ v
            · have HN : Hid (chk x ((pre ++ [(⟨(i, r), hi⟩ : Pl n)]).map (·.1)) ((n : Int) - 1) = some (v - (x i).kid)) := by
                show _ = _
                rw [List.map_append, List.map_singleton, chk_one x _ _ _ v hc, if_pos ⟨q1, q2, q3⟩]
              have e1 : ¬ (12 : Int) < (r : Int) := by omega
              have e2 : ¬ v < (x i).kid := by omega
              have e3 : wrap64 (v - (x i).kid) = v - (x i).kid := by unfold wrap64; omega
              gi_wp2_with (first | (gi_at_call 33; refine (CallsIn.inRound l (callsIn_wide.2 (HIt.out _))).mono ?_; rintro e W3 ⟨rfl, hE3⟩; have HE3 := hide (Ext.trans (Ext.alloc W _) hE3); have k2 := (Below.cell hE3 (p := ⟨W.heap.size, 2, none⟩) (by simp)).trans kn; have J3 := hI.low hWs HE3.out; obtain ⟨c2, f2, c1, f1, c0, ex⟩ := J3; clear hE3) | (refine ⟨trivial, ?_⟩; gi_at_call 33; refine (CallsIn.inRound l (callsIn_wide.2 (HIt.out _))).mono ?_; rintro e W3 ⟨rfl, hE3⟩; have HE3 := hide (Ext.trans (Ext.alloc W _) hE3); have k2 := (Below.cell hE3 (p := ⟨W.heap.size, 2, none⟩) (by simp)).trans kn; have J3 := hI.low hWs HE3.out; obtain ⟨c2, f2, c1, f1, c0, ex⟩ := J3; clear hE3))
              exact ⟨rd_set (rd_ext HE3.out) (by omega) (by rintro (h | h | h) <;> omega) _, _, HN.out, (TrI0.mk c2 f2 c1 f1 c0 ex).set2 _⟩
            · have hok : ¬ okAt x v (i, r) := fun h => q3 h.2.2
              have e1 : ¬ (12 : Int) < (r : Int) := by omega
              have e2 : v < (x i).kid := by omega
              have HN : Hid (chk x ((pre ++ [(⟨(i, r), hi⟩ : Pl n)]).map (·.1)) ((n : Int) - 1) = none) := by
                show _ = _
                rw [List.map_append, List.map_singleton, chk_one x _ _ _ v hc, if_neg hok]
              gi_wp2_with (first | (gi_at_call 33; refine (CallsIn.inRound l (callsIn_wide.2 (HIt.out _))).mono ?_; rintro e W3 ⟨rfl, hE3⟩; have HE3 := hide (Ext.trans (Ext.alloc W _) hE3); have k2 := (Below.cell hE3 (p := ⟨W.heap.size, 2, none⟩) (by simp)).trans kn; have J3 := hI.low hWs HE3.out; obtain ⟨c2, f2, c1, f1, c0, ex⟩ := J3; clear hE3) | (refine ⟨trivial, ?_⟩; gi_at_call 33; refine (CallsIn.inRound l (callsIn_wide.2 (HIt.out _))).mono ?_; rintro e W3 ⟨rfl, hE3⟩; have HE3 := hide (Ext.trans (Ext.alloc W _) hE3); have k2 := (Below.cell hE3 (p := ⟨W.heap.size, 2, none⟩) (by simp)).trans kn; have J3 := hI.low hWs HE3.out; obtain ⟨c2, f2, c1, f1, c0, ex⟩ := J3; clear hE3))
              exact ⟨rd_set (rd_ext HE3.out) (by omega) (by rintro (h | h | h) <;> omega) _, rfl, HN.out, _, (TrI0.mk c2 f2 c1 f1 c0 ex).set1⟩
          · have hok : ¬ okAt x v (i, r) := fun h => q2 h.2.1
            have e1 : (12 : Int) < (r : Int) := by omega
            have HN : Hid (chk x ((pre ++ [(⟨(i, r), hi⟩ : Pl n)]).map (·.1)) ((n : Int) - 1) = none) := by
              show _ = _
              rw [List.map_append, List.map_singleton, chk_one x _ _ _ v hc, if_neg hok]
            gi_wp2_with (first | (gi_at_call 33; refine (CallsIn.inRound l (callsIn_wide.2 (HIt.out _))).mono ?_; rintro e W3 ⟨rfl, hE3⟩; have HE3 := hide (Ext.trans (Ext.alloc W _) hE3); have k2 := (Below.cell hE3 (p := ⟨W.heap.size, 2, none⟩) (by simp)).trans kn; have J3 := hI.low hWs HE3.out; obtain ⟨c2, f2, c1, f1, c0, ex⟩ := J3; clear hE3) | (refine ⟨trivial, ?_⟩; gi_at_call 33; refine (CallsIn.inRound l (callsIn_wide.2 (HIt.out _))).mono ?_; rintro e W3 ⟨rfl, hE3⟩; have HE3 := hide (Ext.trans (Ext.alloc W _) hE3); have k2 := (Below.cell hE3 (p := ⟨W.heap.size, 2, none⟩) (by simp)).trans kn; have J3 := hI.low hWs HE3.out; obtain ⟨c2, f2, c1, f1, c0, ex⟩ := J3; clear hE3))
            exact ⟨rd_set (rd_ext HE3.out) (by omega) (by rintro (h | h | h) <;> omega) _, rfl, HN.out, _, (TrI0.mk c2 f2 c1 f1 c0 ex).set1⟩
        · have hok : ¬ okAt x v (i, r) := fun h => q1 h.1
          rw [decide_eq_false q1] at HIt
          have HN : Hid (chk x ((pre ++ [(⟨(i, r), hi⟩ : Pl n)]).map (·.1)) ((n : Int) - 1) = none) := by
            show _ = _
            rw [List.map_append, List.map_singleton, chk_one x _ _ _ v hc, if_neg hok]
          gi_wp2_with (first | (gi_at_call 33; refine (CallsIn.inRound l (callsIn_wide.2 (HIt.out _))).mono ?_; rintro e W3 ⟨rfl, hE3⟩; have HE3 := hide (Ext.trans (Ext.alloc W _) hE3); have k2 := (Below.cell hE3 (p := ⟨W.heap.size, 2, none⟩) (by simp)).trans kn; have J3 := hI.low hWs HE3.out; obtain ⟨c2, f2, c1, f1, c0, ex⟩ := J3; clear hE3) | (refine ⟨trivial, ?_⟩; gi_at_call 33; refine (CallsIn.inRound l (callsIn_wide.2 (HIt.out _))).mono ?_; rintro e W3 ⟨rfl, hE3⟩; have HE3 := hide (Ext.trans (Ext.alloc W _) hE3); have k2 := (Below.cell hE3 (p := ⟨W.heap.size, 2, none⟩) (by simp)).trans kn; have J3 := hI.low hWs HE3.out; obtain ⟨c2, f2, c1, f1, c0, ex⟩ := J3; clear hE3))
          exact ⟨rd_set (rd_ext HE3.out) (by omega) (by rintro (h | h | h) <;> omega) _, rfl, HN.out, _, (TrI0.mk c2 f2 c1 f1 c0 ex).set1⟩
      case done =>
        rintro xs W hS ⟨v, hc, hI⟩ hlt hD
        have HV : Hid ((v == 0) = treeV x n) := by
          show _ = _
          rw [← runP_treeV x n h1 h300, runP_chk]
          rw [Nat.sub_zero] at hS
          rw [← hS, hc]
          rfl
        have HE := hide hI.ext
        obtain ⟨c2, f2, c1, f1, c0, ex⟩ := hI
        gi_wp2
        rw [sV] at hD hlt
        refine ⟨by simp, .inl ⟨_, _, rfl, run_takeDeferred (ds := []) ((Below.heap_setCell _ _ _ _ (by first | (simp; done) | (simp; omega))).trans hD), ?_⟩⟩
        refine ⟨.bool (v == 0), results_one Tryd.results17 rfl (load_bool ?_), ret_bool HV.out, ?_⟩
        · refine (Below.cell (putObj_below (w.heap.size + 5) _ (w.heap.size + 5) _ (Nat.le_refl _)) (p := ⟨w.heap.size + 1, 0, none⟩) (by first | (simp; done) | (simp; omega))).trans ?_
          exact World.cell?_setCell_same _ _ _ c1
        · exact Below.trans (below_touch HE.out ((Touch.refl (w.heap.size + 1) W).set 0 _) (by omega)) ((putObj_below (w.heap.size + 5) _ (w.heap.size + 5) _ (Nat.le_refl _)).mono (by omega))
      case stop =>
        rintro c pre W hSp ⟨rfl, hc, v, hI⟩ hlt hD
        have HV : Hid (false = treeV x n) := by
          show _ = _
          rw [← runP_treeV x n h1 h300, runP_chk]
          rw [Nat.sub_zero] at hSp
          rw [chk_prefix x _ _ _ hSp hc]
        have HE := hide hI.ext
        have c1 := hI.c1
        gi_wp2
        rw [sV] at hD hlt
        refine ⟨by simp, .inl ⟨_, _, rfl, run_takeDeferred (ds := []) hD, ?_⟩⟩
        refine ⟨.bool false, results_one Tryd.results17 rfl (load_bool ?_), ret_bool HV.out, ?_⟩
        · exact (Below.cell (putObj_below (w.heap.size + 5) _ (w.heap.size + 5) _ (Nat.le_refl _)) (p := ⟨w.heap.size + 1, 0, none⟩) (by first | (simp; done) | (simp; omega))).trans c1
        · exact Below.trans HE.out ((putObj_below (w.heap.size + 5) _ (w.heap.size + 5) _ (Nat.le_refl _)).mono (by omega))
    · have g2 : (300 : Int) < (n : Int) := by omega
      go_enter Tryd.func17, Tryd.ntmps17
      go_wp2
      have B1 := box2 w [.slice a n cap] [.bool false] 23 4 (Ext.refl _)
      exact bodyPost_ret (results_one Tryd.results17 rfl (load_bool (B1.2.1 0 _ rfl).1)) rfl ⟨ret_bool (by unfold treeV; symm; rw [decide_eq_false_iff_not]; omega), B1.2.2.1⟩
  · have g1 : (n : Int) < 1 := by omega
    go_enter Tryd.func17, Tryd.ntmps17
    go_wp2
    have B1 := box2 w [.slice a n cap] [.bool false] 23 4 (Ext.refl _)
    exact bodyPost_ret (results_one Tryd.results17 rfl (load_bool (B1.2.1 0 _ rfl).1)) rfl ⟨ret_bool (by unfold treeV; symm; rw [decide_eq_false_iff_not]; omega), B1.2.2.1⟩
end

section
set_option linter.unusedVariables false
set_option linter.unusedSimpArgs false

open Go.RowKit

/-- Only blocks from S up to T may have turned; none has come. -/
structure MarkT (S T : Nat) (w w' : World) : Prop where
  os : w'.os = w.os
  tape : w'.tape = w.tape
  output : w'.output = w.output
  size : w'.heap.size = w.heap.size
  same : ∀ k, (k < S ∨ T ≤ k) → w'.heap[k]? = w.heap[k]?

theorem MarkT.refl (S T : Nat) (w : World) : MarkT S T w w := ⟨rfl, rfl, rfl, rfl, fun _ _ => rfl⟩

theorem MarkT.trans {S T : Nat} {a b c : World} (h : MarkT S T a b) (k : MarkT S T b c) : MarkT S T a c := ⟨k.os.trans h.os, k.tape.trans h.tape, k.output.trans h.output, k.size.trans h.size, fun i hi => (k.same i hi).trans (h.same i hi)⟩

theorem MarkT.of_touch {S T g : Nat} {w w' : World} (h : Touch g w w') (h1 : S ≤ g) (h2 : g < T) : MarkT S T w w' :=
  ⟨h.grown.os, h.grown.tape, h.grown.output, h.size, fun k hk => by
    by_cases hl : k < w.heap.size
    · exact h.grown.block k hl (by simp; omega)
    · rw [Array.getElem?_eq_none (by rw [h.size]; omega), Array.getElem?_eq_none (by omega)]⟩

theorem MarkT.set {S T g o : Nat} {w w' : World} (h : MarkT S T w w') (h1 : S ≤ g) (h2 : g < T) (v : Value) : MarkT S T w (w'.setCell ⟨g, o, none⟩ v) := h.trans (MarkT.of_touch ((Touch.refl g w').set o v) h1 h2)

theorem MarkT.below {S T B : Nat} {w0 w w' : World} (h : Below B w0 w) (k : MarkT S T w w') (hB : B ≤ S) : Below B w0 w' := h.trans ⟨k.os, k.tape, k.output, by rw [k.size]; exact Nat.le_refl _, fun i hi => k.same i (.inl (by omega))⟩

def sumL (x : Nat → It) : Nat → Nat
  | 0 => 0
  | k + 1 => sumL x k + (x k).len

/-- A copied list, its items from i on whole. -/
structure Cpy (S n i : Nat) (x : Nat → It) (W : World) : Prop where
  c0 : ∀ j, i ≤ j → j < n → ∃ u, W.cell? ⟨S, j * 3, none⟩ = some (.int .i64 u)
  c1 : ∀ j, i ≤ j → j < n → W.cell? ⟨S, j * 3 + 1, none⟩ = some (.slice (some ⟨S + 4 + 4 * j, 0, none⟩) (x j).len (x j).len)
  c2 : ∀ j, i ≤ j → j < n → ∃ u, W.cell? ⟨S, j * 3 + 2, none⟩ = some (.int .i64 u)
  fz : ∀ o, W.frozen? ⟨S, o, none⟩ = false
  body : ∀ j, i ≤ j → j < n → BOwn W (some ⟨S + 4 + 4 * j, 0, none⟩) (S + 4 + 4 * j) 0 (x j).len (x j).f

theorem Cpy.ext {S n i : Nat} {x : Nat → It} {W W' : World} (h : Cpy S n i x W) (e : Ext W W') (hn : 0 < n) (hi : i < n) : Cpy S n i x W' := by
  have hS : S < W.heap.size := World.block_lt_of_cell? _ _ (h.c1 i (Nat.le_refl _) hi)
  have hb : W'.heap[S]? = W.heap[S]? := Below.block e S hS
  have hc : ∀ o, W'.cell? ⟨S, o, none⟩ = W.cell? ⟨S, o, none⟩ := fun o => World.cell?_of_block (a := ⟨S, o, none⟩) hb
  refine ⟨fun j h1 h2 => ?_, fun j h1 h2 => by rw [hc]; exact h.c1 j h1 h2, fun j h1 h2 => ?_, fun o => by rw [World.frozen?_of_block (a := ⟨S, o, none⟩) hb]; exact h.fz o, fun j h1 h2 => BOwn.of_all (h.body j h1 h2) e⟩
  · rw [hc]; exact h.c0 j h1 h2
  · rw [hc]; exact h.c2 j h1 h2

theorem cell_off {W : World} {S o p : Nat} (v : Value) (h : o ≠ p) : (W.setCell ⟨S, o, none⟩ v).cell? ⟨S, p, none⟩ = W.cell? ⟨S, p, none⟩ :=
  World.cell?_setCell_other _ _ _ _ (fun e => h (by have := congrArg Addr.off e; simp at this; omega))

/-- A store into the item at i. -/
theorem Cpy.set {S n i : Nat} {x : Nat → It} {W : World} (h : Cpy S n i x W) (o : Nat) (ho : o = i * 3 ∨ o = i * 3 + 2) (u : Int) : Cpy S n i x (W.setCell ⟨S, o, none⟩ (.int .i64 u)) := by
  have hb : ∀ j, S + 4 + 4 * j ≠ S := fun j => by omega
  refine ⟨fun j h1 h2 => ?_, fun j h1 h2 => ?_, fun j h1 h2 => ?_, fun o' => by rw [World.frozen?_setCell]; exact h.fz o', fun j h1 h2 => BOwn.touch (h.body j h1 h2) ((Touch.refl S W).set o _) (fun _ => hb j)⟩
  · obtain ⟨v, hv⟩ := h.c0 j h1 h2
    by_cases e : o = j * 3
    · subst e; exact ⟨u, World.cell?_setCell_same _ _ _ hv⟩
    · exact ⟨v, by rw [cell_off _ e]; exact hv⟩
  · rw [cell_off _ (by omega)]; exact h.c1 j h1 h2
  · obtain ⟨v, hv⟩ := h.c2 j h1 h2
    by_cases e : o = j * 3 + 2
    · subst e; exact ⟨u, World.cell?_setCell_same _ _ _ hv⟩
    · exact ⟨v, by rw [cell_off _ e]; exact hv⟩

theorem Cpy.next {S n i : Nat} {x : Nat → It} {W : World} (h : Cpy S n i x W) : Cpy S n (i + 1) x W :=
  ⟨fun j h1 h2 => h.c0 j (by omega) h2, fun j h1 h2 => h.c1 j (by omega) h2, fun j h1 h2 => h.c2 j (by omega) h2, h.fz, fun j h1 h2 => h.body j (by omega) h2⟩

theorem Cpy.old {S n i : Nat} {x : Nat → It} {W : World} (h : Cpy S n i x W) (o : Nat) (ho : o < i * 3) (u : Int) : Cpy S n i x (W.setCell ⟨S, o, none⟩ (.int .i64 u)) := by
  refine ⟨fun j h1 h2 => ?_, fun j h1 h2 => ?_, fun j h1 h2 => ?_, fun o' => by rw [World.frozen?_setCell]; exact h.fz o', fun j h1 h2 => BOwn.touch (h.body j h1 h2) ((Touch.refl S W).set o _) (fun _ => by omega)⟩
  · rw [cell_off _ (by omega)]; exact h.c0 j h1 h2
  · rw [cell_off _ (by omega)]; exact h.c1 j h1 h2
  · rw [cell_off _ (by omega)]; exact h.c2 j h1 h2
end

end Go.Proofs.YtmcdikbcmikihaaDoor
