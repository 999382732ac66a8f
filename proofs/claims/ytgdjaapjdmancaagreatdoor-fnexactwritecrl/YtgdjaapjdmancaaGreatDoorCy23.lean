/- Walks: the library's iterator slices.Backward over items, for a caller that makes memory of its own in a round. Walks: a number's digits by a base: inBase, oidNumberBytes of the program; l7Seven of the model. -/
import Derived.Test.YtgdjaapjdmancaaGreatDoorCy02
import Derived.Test.YtgdjaapjdmancaaGreatDoorCy22
import Derived.Test.YtgdjaapjdmancaaGreatDoorCy07
namespace Go.Proofs.YtgdjaapjdmancaaGreatDoor

section
set_option linter.unusedVariables false
set_option linter.unusedSimpArgs false

open Go.RowKit Go.Shelf

attribute [local go_sem] Oper.semAt_some

abbrev Ix (m : Nat) := { i : Nat // i < m }

def encI (x : Nat → It) {m : Nat} (p : Ix m) : Array Value := #[.int .i64 (p.1 : Int), .agg #[.int .i64 (x p.1).tag, .slice (x p.1).ad (x p.1).len (x p.1).cap, .int .i64 (x p.1).kid]]

def XC (CL b : Nat) (k : Nat) : Prop := k = CL ∨ k = b

set_option maxHeartbeats 6400000 in
set_option maxRecDepth 100000 in
theorem back1_inV (n : Nat) (hn1 : 1 ≤ n) (m CL b off cap : Nat) (x : Nat → It) (w0 : World) (hm : m ≤ 1048576) (hm0 : 0 < m) (hCL : w0.cell? ⟨CL, 0, none⟩ = some (.slice (some ⟨b, off, none⟩) m cap)) (hI : ISeg w0 (some ⟨b, off, none⟩) b off m x) :
    TellsV (α := Ix m) n Tryz.prog 94 #[.pointer (some ⟨CL, 0, none⟩)] (encI x) (fun pre y => pre.length + y.1 + 1 = m) (fun xs => xs.map (·.1) = (List.range m).reverse) (fun pre => pre.map (·.1) <+: (List.range m).reverse) m (XC CL b) w0 := by
  intro l J Jx W hW hJ hJx hY h0
  have lt2 : CL < w0.heap.size := World.block_lt_of_cell? _ _ hCL
  have lt3 : b < w0.heap.size := hI.lt hm0
  have hCW : W.cell? ⟨CL, 0, none⟩ = some (.slice (some ⟨b, off, none⟩) m cap) := (hW.cell (p := ⟨CL, 0, none⟩) lt2).trans hCL
  refine callsIn_of_wp Tryz.func94 rfl trivial ?_ rfl
  simp only [Tryz.ntmps94, List.size_toArray, List.length_cons, List.length_nil, Nat.reduceAdd, Nat.reduceSub, Array.replicate_succ, Array.replicate_zero, List.push_toArray, List.append_toArray, List.nil_append, List.cons_append]
  have hw1 : wrap64 ((m : Int) - 1) = (m : Int) - 1 := by unfold wrap64; omega
  gi_wp2
  have HK2 : Hid (∀ wr : World, (∀ k, XC CL b k → wr.heap[k]? = W.heap[k]?) → wr.cell? ⟨CL, 0, none⟩ = some (.slice (some ⟨b, off, none⟩) m cap) ∧ (∀ i, i < m → wr.cell? ⟨b, off + i * 3, none⟩ = some (.int .i64 (x i).tag) ∧ wr.cell? ⟨b, off + i * 3 + 1, none⟩ = some (.slice (x i).ad (x i).len (x i).cap) ∧ wr.cell? ⟨b, off + i * 3 + 2, none⟩ = some (.int .i64 (x i).kid))) := by
    intro wr hr
    have hbk : wr.heap[b]? = w0.heap[b]? := (hr b (.inr rfl)).trans (hW.block b lt3)
    refine ⟨?_, fun i hi => ⟨?_, ?_, ?_⟩⟩
    · rw [World.cell?_of_block (a := ⟨CL, 0, none⟩) (hr CL (.inl rfl))]
      exact hCW
    · exact (World.cell?_of_block (a := ⟨b, off + i * 3, none⟩) hbk).trans (hI.c0 i hi)
    · exact (World.cell?_of_block (a := ⟨b, off + i * 3 + 1, none⟩) hbk).trans (hI.c1 i hi)
    · exact (World.cell?_of_block (a := ⟨b, off + i * 3 + 2, none⟩) hbk).trans (hI.c2 i hi)
  have HXl : Hid (∀ k, XC CL b k → k < W.heap.size) := fun k hk => by have := hW.size; rcases hk with h | h <;> omega
  clear hw1
  gi_loopw [3] (fun p wr => ∃ (i : Nat) (pre : List (Ix m)) (O : Nat → Prop), i ≤ m ∧ p = .int .i64 ((i : Int) - 1) ∧ pre.map (·.1) ++ (List.range i).reverse = (List.range m).reverse ∧ pre.length + i = m ∧ J O pre wr ∧ W.heap.size ≤ wr.heap.size ∧ (∀ k, XC CL b k → wr.heap[k]? = W.heap[k]?) ∧ (∀ k, O k → W.heap.size ≤ k ∧ k < wr.heap.size)) (fun p _ => (intOf p + 1).toNat)
  case atStart => exact ⟨m, [], fun _ => False, Nat.le_refl _, rfl, rfl, by simp, h0, Nat.le_refl _, fun _ _ => rfl, fun _ h => h.elim⟩
  case round =>
    obtain ⟨i, pre, O, him, rfl, hT, hpi, hJp, hsz, hrd, hOk⟩ := hrel
    obtain ⟨cl, ci⟩ := HK2.out wr hrd
    have HOk := hide hOk
    have HT := hide hT
    have Hrd := hide hrd
    have Hpi := hide hpi
    clear hOk hT hrd hpi
    by_cases h0i : 0 < i
    · obtain ⟨j, rfl⟩ : ∃ j, i = j + 1 := ⟨i - 1, by omega⟩
      have hj : j < m := by omega
      have hj' : (j : Int) < (m : Int) := by omega
      rw [show (((j + 1 : Nat) : Int) - 1) = (j : Int) by omega]
      obtain ⟨c0, c1, c2⟩ := ci j hj
      obtain ⟨fn, tmps, assign, body, hy, hR⟩ := hY O pre ⟨j, hj⟩ wr hJp (by have := Hpi.out; show pre.length + j + 1 = m; omega) HOk.out hsz (by have := Hpi.out; omega)
      simp only [encI] at hy
      have HR := hide hR
      have HF : Hid (pre.map (·.1) ++ (j :: (List.range j).reverse) = (List.range m).reverse) := by
        have := HT.out
        rw [List.range_succ, List.reverse_append] at this
        exact this
      clear hR ci
      gi_wp2
      refine HR.out.mono ?_
      rintro e W3 (⟨rfl, hJ3, hk3⟩ | ⟨rfl, hJx3⟩)
      · have Hrd3 : Hid (∀ k, XC CL b k → W3.heap[k]? = W.heap[k]?) := fun k hk => (hk3.same k (.inr hk) (by have := HXl.out k hk; omega)).trans (Hrd.out k hk)
        have HOk3 : Hid (∀ k, O k → W.heap.size ≤ k ∧ k < W3.heap.size) := fun k hk => by have := HOk.out k hk; have := hk3.size; omega
        have HJ3 := hide hJ3
        have hsz3 : W.heap.size ≤ W3.heap.size := Nat.le_trans hsz hk3.size
        have hwj : wrap64 ((j : Int) - 1) = (j : Int) - 1 := by unfold wrap64; omega
        clear hJ3 hk3 cl c0 c1 c2 hy HR
        gi_wp2
        go_roundw
        case rel => exact ⟨j, pre ++ [⟨j, hj⟩], O, by omega, rfl, by rw [List.map_append, List.append_assoc]; exact HF.out, by have := Hpi.out; simp; omega, HJ3.out, hsz3, Hrd3.out, HOk3.out⟩
        case measure => simp [intOf]
      · gi_wp2
        (try simp only [Exit.inBlock, Exit.then])
        refine bodyPost_ret (results_none rfl _ _ _) rfl ?_
        refine ⟨⟨_, rfl⟩, .inr ⟨pre ++ [⟨j, hj⟩], O, ?_, hJx3⟩⟩
        rw [← HF.out, List.map_append]
        exact ⟨_, by rw [List.append_assoc]; rfl⟩
    · obtain rfl : i = 0 := by omega
      have hneg : ¬ (0 : Int) ≤ ((0 : Nat) : Int) - 1 := by omega
      gi_wp2
      go_end0
      refine ⟨⟨_, rfl⟩, .inl ⟨pre, ?_, O, hJp⟩⟩
      have h := HT.out
      simpa using h
end

section
set_option linter.unusedVariables false
set_option linter.unusedSimpArgs false

open Go.RowKit

/-- What is left of n without its k lowest digits. -/
def dv (n B : Int) : Nat → Int
  | 0 => n
  | k + 1 => dv n B k / B

def dg (n B : Int) (k : Nat) : Int := dv n B k % B

/-- L digits and one more are all. -/
structure IsLenB (n B : Int) (L : Nat) : Prop where
  yes : dv n B (L + 1) ≤ 0
  no : ∀ j, j < L → 0 < dv n B (j + 1)

def blen (B : Int) : Nat → Int → Nat
  | 0, _ => 0
  | k + 1, n => if n / B ≤ 0 then 0 else 1 + blen B k (n / B)

theorem dv_shift (n B : Int) (k : Nat) : dv n B (k + 1) = dv (n / B) B k := by
  induction k with
  | zero => rfl
  | succ k ih => rw [dv, ih]; rfl

theorem blen_is {B : Int} (hB : B = 128 ∨ B = 256) : ∀ (k : Nat) (n : Int), 0 ≤ n → n.toNat ≤ k → IsLenB n B (blen B k n)
  | 0, n, h0, hk => ⟨by show n / B ≤ 0; rcases hB with rfl | rfl <;> omega, fun j hj => absurd hj (Nat.not_lt_zero _)⟩
  | k + 1, n, h0, hk => by
    unfold blen
    by_cases h : n / B ≤ 0
    · rw [if_pos h]
      exact ⟨h, fun j hj => absurd hj (Nat.not_lt_zero _)⟩
    · rw [if_neg h]
      have ih := blen_is hB k (n / B) (by omega) (by rcases hB with rfl | rfl <;> omega)
      refine ⟨?_, fun j hj => ?_⟩
      · rw [Nat.add_comm 1, dv_shift]; exact ih.yes
      · cases j with
        | zero => show 0 < n / B; omega
        | succ j => rw [dv_shift]; exact ih.no j (by omega)

theorem dv_nonneg {n B : Int} (hB : B = 128 ∨ B = 256) (h0 : 0 ≤ n) (k : Nat) : 0 ≤ dv n B k ∧ dv n B k ≤ n := by
  induction k with
  | zero => exact ⟨h0, Int.le_refl _⟩
  | succ k ih => unfold dv; rcases hB with rfl | rfl <;> omega

theorem IsLenB.le {n B : Int} {L : Nat} (h : IsLenB n B L) (hB : B = 128 ∨ B = 256) (h0 : 0 ≤ n) (h1 : n ≤ 9223372036854775807) : L ≤ 8 := by
  by_cases hL : L ≤ 8
  · exact hL
  · exfalso
    have h9 := h.no 8 (by omega)
    rcases hB with rfl | rfl
    · have e : dv n 128 9 = n / 128 / 128 / 128 / 128 / 128 / 128 / 128 / 128 / 128 := rfl
      rw [e] at h9
      omega
    · have e : dv n 256 9 = n / 256 / 256 / 256 / 256 / 256 / 256 / 256 / 256 / 256 := rfl
      rw [e] at h9
      omega

theorem IsLenB.unique {n B : Int} {L M : Nat} (h : IsLenB n B L) (k : IsLenB n B M) : L = M := by
  rcases Nat.lt_trichotomy L M with hl | hl | hl
  · have := k.no L hl; have := h.yes; omega
  · exact hl
  · have := h.no M hl; have := k.yes; omega

/-- How many digits there are, less one. -/
def lenB (B n : Int) : Nat := blen B n.toNat n

theorem lenB_is {B : Int} (hB : B = 128 ∨ B = 256) (n : Int) (h0 : 0 ≤ n) : IsLenB n B (lenB B n) := blen_is hB _ n h0 (Nat.le_refl _)

theorem byts_set (F : Nat → Int) (n i : Nat) (x : Int) : (byts F n).set i (.int .u8 x) = byts (fun k => if k = i then x else F k) n := by
  apply List.ext_getElem?
  intro k
  rw [List.getElem?_set]
  simp only [byts, List.length_map, List.length_range, List.getElem?_map]
  by_cases hk : k < n
  · rw [List.getElem?_range hk]
    by_cases e : i = k
    · subst e; simp [hk]
    · rw [if_neg e]; simp [Ne.symm e]
  · rw [List.getElem?_eq_none (by simpa using hk)]
    by_cases e : i = k
    · subst e; simp [hk]
    · rw [if_neg e]; rfl

theorem owns_set {w : World} {base g n cap : Nat} {F : Nat → Int} (h : w.ownsRow base 5 1 (.slice (some ⟨g, 0, none⟩) n cap) n (byts F n)) (i : Nat) (x : Int) :
    (w.setCell ⟨g, i, none⟩ (.int .u8 x)).ownsRow base 5 1 (.slice (some ⟨g, 0, none⟩) n cap) n (byts (fun k => if k = i then x else F k) n) := by
  rw [← byts_set]
  exact (World.ownsRow.stored h i _).1

theorem owns_cell {w : World} {base g n cap : Nat} {F : Nat → Int} (h : w.ownsRow base 5 1 (.slice (some ⟨g, 0, none⟩) n cap) n (byts F n)) (i : Nat) (hi : i < n) : w.cell? ⟨g, i, none⟩ = some (.int .u8 (F i)) := by
  rw [World.ownsRow.cellAt h i (by omega)]
  simp [byts, hi]

theorem owns_free {w : World} {base g n cap : Nat} {xs : List Value} (h : w.ownsRow base 5 1 (.slice (some ⟨g, 0, none⟩) n cap) n xs) (i : Nat) : w.frozen? ⟨g, i, none⟩ = false := World.ownsRow.frozenAt h i

set_option maxHeartbeats 1600000 in
set_option maxRecDepth 100000 in
theorem rev_own (base g n cap : Nat) (f : Nat → Int) (w : World) (hs : w.ownsRow base 5 1 (.slice (some ⟨g, 0, none⟩) n cap) n (byts f n)) (hn : n ≤ 1048576) :
    Calls Tryz.prog 95 #[.slice (some ⟨g, 0, none⟩) n cap] w fun e w' => e = .returned (.tuple #[]) ∧ w'.ownsRow base 5 1 (.slice (some ⟨g, 0, none⟩) n cap) n (byts (fun i => f (n - 1 - i)) n) ∧ Touch g w w' := by
  go_enter Tryz.func95, Tryz.ntmps95
  have Hs := hide hs
  clear hs
  go_wp2
  go_loopw [2, 3] (fun s2 s3 wr => ∃ i : Nat, 2 * i ≤ n + 1 ∧ s2 = .int .i64 i ∧ s3 = .int .i64 ((n : Int) - 1 - i) ∧ wr.ownsRow base 5 1 (.slice (some ⟨g, 0, none⟩) n cap) n (byts (revF f n i) n) ∧ Touch g w wr) (fun s2 _ _ => n - (intOf s2).toNat)
  case atStart => exact ⟨0, by omega, rfl, by go_num, owns_congr Hs.out (fun k hk => by unfold revF; rw [if_neg (by omega)]), Touch.refl _ _⟩
  case round =>
    obtain ⟨i, hi, rfl, rfl, hO, hT⟩ := hrel
    by_cases hlt : (i : Int) < (n : Int) - 1 - i
    · obtain ⟨j, hj⟩ : ∃ j, n - 1 - i = j := ⟨_, rfl⟩
      have hjz : (n : Int) - 1 - i = (j : Int) := by omega
      have hij : (i : Int) < j := by omega
      have ci := owns_cell hO i (by omega)
      have fi := owns_free hO i
      have cj := owns_cell hO j (by omega)
      have fj := owns_free hO j
      have hi' : (i : Int) < n := by omega
      have hj' : (j : Int) < n := by omega
      have HO := hide hO
      have HT := hide hT
      have Hj := hide hj
      have HC := hide (owns_set (owns_set hO i (revF f n i j)) j (revF f n i i))
      have hT2 := hide ((hT.set i (.int .u8 (revF f n i j))).set j (.int .u8 (revF f n i i)))
      rw [hjz]
      clear hO hT hj hjz hlt
      go_wp2_with fail
      go_region
      go_wp2
      go_roundw
      case rel =>
        have h1 := Hj.out
        refine ⟨i + 1, by omega, by go_num, by go_num, (owns_congr HC.out (fun k hk => ?_) : World.ownsRow _ _ _ _ _ _ _), hT2.out.drew 1⟩
        unfold revF
        by_cases e1 : k = j
        · subst e1
          rw [if_pos rfl, if_neg (by omega), if_pos (by omega)]
          congr 1; omega
        · rw [if_neg e1]
          by_cases e2 : k = i
          · subst e2
            rw [if_pos rfl, if_neg (by omega), if_pos (by omega)]
            congr 1; omega
          · rw [if_neg e2]
            by_cases e3 : k < i ∨ n - i ≤ k
            · rw [if_pos e3, if_pos (by omega)]
            · rw [if_neg e3, if_neg (by omega)]
      case measure => simp [intOf]; omega
    · have HO := hide hO
      clear hO
      go_wp2
      go_end0
      refine ⟨rfl, owns_congr HO.out (fun k hk => ?_), hT⟩
      unfold revF
      split
      · rfl
      · congr 1; omega

/-- Only what lies behind base may have turned. -/
theorem Touch.ext {g : Nat} {w0 w w' : World} (ht : Touch g w w') (he : Ext w0 w) (hg : w0.heap.size ≤ g) : Ext w0 w' := below_touch he ht hg

set_option maxHeartbeats 1600000 in
set_option maxRecDepth 100000 in
theorem inBase_any (n B : Int) (L : Nat) (hB : B = 128 ∨ B = 256) (hL : IsLenB n B L) (w : World) (h0 : 0 ≤ n) (h1 : n ≤ 9223372036854775807) :
    Calls Tryz.prog 78 #[.int .i64 n, .int .i64 B] w fun e w' => GivesR w (L + 1) (fun i => dg n B (L - i)) e w' := by
  have HL := hide hL
  have HB := hide hB
  have HO := hide (owns_one8 w (n % B))
  have HE := hide (Ext.alloc w (.cells #[.int .u8 (n % B)] 5))
  have m0 : n.tmod B = n % B := Int.tmod_eq_emod_of_nonneg h0
  have q0 : n.tdiv B = n / B := Int.tdiv_eq_ediv_of_nonneg h0
  have b0 : 0 < B := by omega
  have b1 : (B == 0) = false := by simp; omega
  have b2 : ¬ B = 0 := by omega
  have b3 : B ≤ 256 := by omega
  have u0 : n % B % 256 = n % B := by rcases hB with rfl | rfl <;> omega
  have l0 : 0 ≤ n % B := Int.emod_nonneg _ b2
  have l1 : n % B < B := Int.emod_lt_of_pos _ b0
  have d0 : 0 ≤ n / B := by rcases hB with rfl | rfl <;> omega
  have d1 : n / B ≤ 9223372036854775807 := by rcases hB with rfl | rfl <;> omega
  clear hL hB
  go_enter Tryz.func78, Tryz.ntmps78
  go_wp2
  clear m0 q0 u0 l0 l1 d0 d1
  go_loopw [0, 5] (fun x v wr => ∃ j : Nat, j ≤ L ∧ x = .int .i64 (dv n B (j + 1)) ∧ wr.ownsRow w.heap.size 5 1 v (j + 1) (byts (dg n B) (j + 1)) ∧ Ext w wr) (fun _ v _ => 9 - (match v with | .slice _ n _ => n | _ => 0))
  case atStart => exact ⟨0, by omega, rfl, HO.out, HE.out⟩
  case round =>
    clear HO HE
    obtain ⟨j, hj, rfl, hO, hE⟩ := hrel
    obtain ⟨hb0, hb1⟩ := dv_nonneg HB.out h0 (j + 1)
    by_cases hs : dv n B (j + 1) ≤ 0
    · have e : j = L := by
        by_cases hh : j < L
        · have := HL.out.no j hh; omega
        · omega
      subst e
      have HJ := hide (HL.out.le HB.out h0 h1)
      have x0 : ¬ (0 : Int) < dv n B (j + 1) := by omega
      have HE := hide hE
      obtain ⟨ya, yg, yc, rfl, hyg, hyn, hyc, hyB⟩ := owns_seg hO
      have HO := hide hO
      obtain rfl := hyB.at' (by omega)
      have Hyg := hide hyg
      clear hyB hyg hO hE hs HL
      generalize dv n B (j + 1) = x at *
      go_wp2_with fail
      refine (rev_own w.heap.size yg (j + 1) yc (dg n B) wr HO.out (by have := HJ.out; omega)).mono ?_
      rintro e w1 ⟨rfl, hr, hT⟩
      have HR := hide hr
      have HB := hide (hT.ext HE.out Hyg.out)
      clear hr hT
      go_wp2
      go_ret
      exact ⟨_, rfl, owns_congr HR.out (fun i hi => by show dg n B (j + 1 - 1 - i) = _; rw [show j + 1 - 1 - i = j - i by omega]), HB.out⟩
    · have hh : j < L := by
        have h2 := HL.out.yes
        by_cases e : j = L
        · subst e; exact absurd h2 hs
        · omega
      have x0 : (0 : Int) < dv n B (j + 1) := by omega
      have HE := hide hE
      have Hsz := hide (Below.size hE)
      have HJ := hide (Nat.lt_of_lt_of_le hh (HL.out.le HB.out h0 h1))
      have H8 : Hid (dv n B (j + 1 + 1) = dv n B (j + 1) / B) := rfl
      have Hy : Hid (dg n B (j + 1) = dv n B (j + 1) % B) := rfl
      have m0 : (dv n B (j + 1)).tmod B = dv n B (j + 1) % B := Int.tmod_eq_emod_of_nonneg hb0
      have q0 : (dv n B (j + 1)).tdiv B = dv n B (j + 1) / B := Int.tdiv_eq_ediv_of_nonneg hb0
      have u0 : dv n B (j + 1) % B % 256 = dv n B (j + 1) % B := by rcases HB.out with rfl | rfl <;> omega
      have l0 : 0 ≤ dv n B (j + 1) % B := Int.emod_nonneg _ b2
      have l1 : dv n B (j + 1) % B < B := Int.emod_lt_of_pos _ b0
      have d0 : 0 ≤ dv n B (j + 1) / B := by rcases HB.out with rfl | rfl <;> omega
      have d1 : dv n B (j + 1) / B ≤ 9223372036854775807 := by rcases HB.out with rfl | rfl <;> omega
      have HO1 := hide hO
      have HO := hide (hO.alloc (.cells #[.int .u8 (dv n B (j + 1) % B)] 5))
      have HX := hide (bseg_one wr (dv n B (j + 1) % B))
      clear hO hE hs
      go_wp2_with (at_builtin; refine wpList_append_bs rfl _ _ rfl w.heap.size _ (j + 1) _ rfl HO.out _ wr.heap.size 0 1 1 (fun _ => dv n B (j + 1) % B) rfl HX.out (by have := HJ.out; omega) (by have := Hsz.out; simp; omega) ?_)
      intro v' w1 h2 h3
      rw [byts_append] at h2
      have H2 : Hid (w1.ownsRow w.heap.size 5 1 v' (j + 1 + 1) (byts (dg n B) (j + 1 + 1))) := hide (owns_congr h2 (fun i hi => by
        unfold catF
        split
        · rfl
        · rw [show i = j + 1 by omega]; rfl))
      have H3 : Hid (Ext w w1) := hide (Below.trans (Ext.trans HE.out (Ext.alloc _ _)) h3)
      clear h2 h3 HO HX
      go_wp2
      go_roundw
      case rel => exact ⟨j + 1, by omega, by rw [H8.out], H2.out, H3.out⟩
      case measure =>
        obtain ⟨_, _, _, rfl, -⟩ := owns_seg H2.out
        obtain ⟨_, _, _, rfl, -⟩ := owns_seg HO1.out
        have := HJ.out
        simp
        omega
end

end Go.Proofs.YtgdjaapjdmancaaGreatDoor
