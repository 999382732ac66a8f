/- Walks: a number's digits by a base: inBase, oidNumberBytes of the program; l7Seven of the model. -/
import Derived.Test.YtigjjkondbdgjabIntB
namespace Go.Proofs.Ytigjjkondbdgjab
set_option linter.unusedVariables false
set_option linter.unusedSimpArgs false
open Go.RowKit

/-- What is left of n without its k lowest digits. -/
def dv (n B : Int) : Nat → Int
  | 0 => n
  | k + 1 => dv n B k / B
def dg (n B : Int) (k : Nat) : Int := dv n B k % B
/-- L digits and one more are all. -/
structure IsLenB (n B : Int) (L : Nat) : Prop where
  yes : dv n B (L + 1) ≤ 0
  no : ∀ j, j < L → 0 < dv n B (j + 1)

def blen (B : Int) : Nat → Int → Nat
  | 0, _ => 0
  | k + 1, n => if n / B ≤ 0 then 0 else 1 + blen B k (n / B)
theorem dv_shift (n B : Int) (k : Nat) : dv n B (k + 1) = dv (n / B) B k := by
  induction k with
  | zero => rfl
  | succ k ih => rw [dv, ih]; rfl
theorem blen_is {B : Int} (hB : B = 128 ∨ B = 256) : ∀ (k : Nat) (n : Int), 0 ≤ n → n.toNat ≤ k → IsLenB n B (blen B k n)
  | 0, n, h0, hk => ⟨by show n / B ≤ 0; rcases hB with rfl | rfl <;> omega, fun j hj => absurd hj (Nat.not_lt_zero _)⟩
  | k + 1, n, h0, hk => by
    unfold blen
    by_cases h : n / B ≤ 0
    · rw [if_pos h]
      exact ⟨h, fun j hj => absurd hj (Nat.not_lt_zero _)⟩
    · rw [if_neg h]
      have ih := blen_is hB k (n / B) (by omega) (by rcases hB with rfl | rfl <;> omega)
      refine ⟨?_, fun j hj => ?_⟩
      · rw [Nat.add_comm 1, dv_shift]; exact ih.yes
      · cases j with
        | zero => show 0 < n / B; omega
        | succ j => rw [dv_shift]; exact ih.no j (by omega)
theorem dv_nonneg {n B : Int} (hB : B = 128 ∨ B = 256) (h0 : 0 ≤ n) (k : Nat) : 0 ≤ dv n B k ∧ dv n B k ≤ n := by
  induction k with
  | zero => exact ⟨h0, Int.le_refl _⟩
  | succ k ih => unfold dv; rcases hB with rfl | rfl <;> omega
theorem IsLenB.le {n B : Int} {L : Nat} (h : IsLenB n B L) (hB : B = 128 ∨ B = 256) (h0 : 0 ≤ n) (h1 : n ≤ 9223372036854775807) : L ≤ 8 := by
  by_cases hL : L ≤ 8
  · exact hL
  · exfalso
    have h9 := h.no 8 (by omega)
    rcases hB with rfl | rfl
    · have e : dv n 128 9 = n / 128 / 128 / 128 / 128 / 128 / 128 / 128 / 128 / 128 := rfl
      rw [e] at h9
      omega
    · have e : dv n 256 9 = n / 256 / 256 / 256 / 256 / 256 / 256 / 256 / 256 / 256 := rfl
      rw [e] at h9
      omega
theorem IsLenB.unique {n B : Int} {L M : Nat} (h : IsLenB n B L) (k : IsLenB n B M) : L = M := by
  rcases Nat.lt_trichotomy L M with hl | hl | hl
  · have := k.no L hl; have := h.yes; omega
  · exact hl
  · have := h.no M hl; have := k.yes; omega
/-- How many digits there are, less one. -/
def lenB (B n : Int) : Nat := blen B n.toNat n
theorem lenB_is {B : Int} (hB : B = 128 ∨ B = 256) (n : Int) (h0 : 0 ≤ n) : IsLenB n B (lenB B n) := blen_is hB _ n h0 (Nat.le_refl _)

theorem byts_set (F : Nat → Int) (n i : Nat) (x : Int) : (byts F n).set i (.int .u8 x) = byts (fun k => if k = i then x else F k) n := by
  apply List.ext_getElem?
  intro k
  rw [List.getElem?_set]
  simp only [byts, List.length_map, List.length_range, List.getElem?_map]
  by_cases hk : k < n
  · rw [List.getElem?_range hk]
    by_cases e : i = k
    · subst e; simp [hk]
    · rw [if_neg e]; simp [Ne.symm e]
  · rw [List.getElem?_eq_none (by simpa using hk)]
    by_cases e : i = k
    · subst e; simp [hk]
    · rw [if_neg e]; rfl
theorem owns_set {w : World} {base g n cap : Nat} {F : Nat → Int} (h : w.ownsRow base 5 1 (.slice (some ⟨g, 0, none⟩) n cap) n (byts F n)) (i : Nat) (x : Int) :
    (w.setCell ⟨g, i, none⟩ (.int .u8 x)).ownsRow base 5 1 (.slice (some ⟨g, 0, none⟩) n cap) n (byts (fun k => if k = i then x else F k) n) := by
  rw [← byts_set]
  exact (World.ownsRow.stored h i _).1
theorem owns_cell {w : World} {base g n cap : Nat} {F : Nat → Int} (h : w.ownsRow base 5 1 (.slice (some ⟨g, 0, none⟩) n cap) n (byts F n)) (i : Nat) (hi : i < n) : w.cell? ⟨g, i, none⟩ = some (.int .u8 (F i)) := by
  rw [World.ownsRow.cellAt h i (by omega)]
  simp [byts, hi]
theorem owns_free {w : World} {base g n cap : Nat} {xs : List Value} (h : w.ownsRow base 5 1 (.slice (some ⟨g, 0, none⟩) n cap) n xs) (i : Nat) : w.frozen? ⟨g, i, none⟩ = false := World.ownsRow.frozenAt h i

set_option maxHeartbeats 1600000 in
set_option maxRecDepth 100000 in
theorem rev_own (base g n cap : Nat) (f : Nat → Int) (w : World) (hs : w.ownsRow base 5 1 (.slice (some ⟨g, 0, none⟩) n cap) n (byts f n)) (hn : n ≤ 1048576) :
    Calls Try.prog 98 #[.slice (some ⟨g, 0, none⟩) n cap] w fun e w' => e = .returned (.tuple #[]) ∧ w'.ownsRow base 5 1 (.slice (some ⟨g, 0, none⟩) n cap) n (byts (fun i => f (n - 1 - i)) n) ∧ Touch g w w' := by
  go_enter Try.func98, Try.ntmps98
  have Hs := hide hs
  clear hs
  go_wp2
  go_loopw [2, 3] (fun s2 s3 wr => ∃ i : Nat, 2 * i ≤ n + 1 ∧ s2 = .int .i64 i ∧ s3 = .int .i64 ((n : Int) - 1 - i) ∧ wr.ownsRow base 5 1 (.slice (some ⟨g, 0, none⟩) n cap) n (byts (revF f n i) n) ∧ Touch g w wr) (fun s2 _ _ => n - (intOf s2).toNat)
  case atStart => exact ⟨0, by omega, rfl, by go_num, owns_congr Hs.out (fun k hk => by unfold revF; rw [if_neg (by omega)]), Touch.refl _ _⟩
  case round =>
    obtain ⟨i, hi, rfl, rfl, hO, hT⟩ := hrel
    by_cases hlt : (i : Int) < (n : Int) - 1 - i
    · obtain ⟨j, hj⟩ : ∃ j, n - 1 - i = j := ⟨_, rfl⟩
      have hjz : (n : Int) - 1 - i = (j : Int) := by omega
      have hij : (i : Int) < j := by omega
      have ci := owns_cell hO i (by omega)
      have fi := owns_free hO i
      have cj := owns_cell hO j (by omega)
      have fj := owns_free hO j
      have hi' : (i : Int) < n := by omega
      have hj' : (j : Int) < n := by omega
      have HO := hide hO
      have HT := hide hT
      have Hj := hide hj
      have HC := hide (owns_set (owns_set hO i (revF f n i j)) j (revF f n i i))
      have hT2 := hide ((hT.set i (.int .u8 (revF f n i j))).set j (.int .u8 (revF f n i i)))
      rw [hjz]
      clear hO hT hj hjz hlt
      go_wp2_with fail
      go_region
      go_wp2
      go_roundw
      case rel =>
        have h1 := Hj.out
        refine ⟨i + 1, by omega, by go_num, by go_num, (owns_congr HC.out (fun k hk => ?_) : World.ownsRow _ _ _ _ _ _ _), hT2.out.drew 1⟩
        unfold revF
        by_cases e1 : k = j
        · subst e1
          rw [if_pos rfl, if_neg (by omega), if_pos (by omega)]
          congr 1; omega
        · rw [if_neg e1]
          by_cases e2 : k = i
          · subst e2
            rw [if_pos rfl, if_neg (by omega), if_pos (by omega)]
            congr 1; omega
          · rw [if_neg e2]
            by_cases e3 : k < i ∨ n - i ≤ k
            · rw [if_pos e3, if_pos (by omega)]
            · rw [if_neg e3, if_neg (by omega)]
      case measure => simp [intOf]; omega
    · have HO := hide hO
      clear hO
      go_wp2
      go_end0
      refine ⟨rfl, owns_congr HO.out (fun k hk => ?_), hT⟩
      unfold revF
      split
      · rfl
      · congr 1; omega

/-- Only what lies behind base may have turned. -/
theorem Touch.ext {g : Nat} {w0 w w' : World} (ht : Touch g w w') (he : Ext w0 w) (hg : w0.heap.size ≤ g) : Ext w0 w' := below_touch he ht hg

set_option maxHeartbeats 1600000 in
set_option maxRecDepth 100000 in
theorem inBase_any (n B : Int) (L : Nat) (hB : B = 128 ∨ B = 256) (hL : IsLenB n B L) (w : World) (h0 : 0 ≤ n) (h1 : n ≤ 9223372036854775807) :
    Calls Try.prog 69 #[.int .i64 n, .int .i64 B] w fun e w' => GivesR w (L + 1) (fun i => dg n B (L - i)) e w' := by
  have HL := hide hL
  have HB := hide hB
  have HO := hide (owns_one8 w (n % B))
  have HE := hide (Ext.alloc w (.cells #[.int .u8 (n % B)] 5))
  have m0 : n.tmod B = n % B := Int.tmod_eq_emod_of_nonneg h0
  have q0 : n.tdiv B = n / B := Int.tdiv_eq_ediv_of_nonneg h0
  have b0 : 0 < B := by omega
  have b1 : (B == 0) = false := by simp; omega
  have b2 : ¬ B = 0 := by omega
  have b3 : B ≤ 256 := by omega
  have u0 : n % B % 256 = n % B := by rcases hB with rfl | rfl <;> omega
  have l0 : 0 ≤ n % B := Int.emod_nonneg _ b2
  have l1 : n % B < B := Int.emod_lt_of_pos _ b0
  have d0 : 0 ≤ n / B := by rcases hB with rfl | rfl <;> omega
  have d1 : n / B ≤ 9223372036854775807 := by rcases hB with rfl | rfl <;> omega
  clear hL hB
  go_enter Try.func69, Try.ntmps69
  go_wp2
  clear m0 q0 u0 l0 l1 d0 d1
  go_loopw [0, 5] (fun x v wr => ∃ j : Nat, j ≤ L ∧ x = .int .i64 (dv n B (j + 1)) ∧ wr.ownsRow w.heap.size 5 1 v (j + 1) (byts (dg n B) (j + 1)) ∧ Ext w wr) (fun _ v _ => 9 - (match v with | .slice _ n _ => n | _ => 0))
  case atStart => exact ⟨0, by omega, rfl, HO.out, HE.out⟩
  case round =>
    clear HO HE
    obtain ⟨j, hj, rfl, hO, hE⟩ := hrel
    obtain ⟨hb0, hb1⟩ := dv_nonneg HB.out h0 (j + 1)
    by_cases hs : dv n B (j + 1) ≤ 0
    · have e : j = L := by
        by_cases hh : j < L
        · have := HL.out.no j hh; omega
        · omega
      subst e
      have HJ := hide (HL.out.le HB.out h0 h1)
      have x0 : ¬ (0 : Int) < dv n B (j + 1) := by omega
      have HE := hide hE
      obtain ⟨ya, yg, yc, rfl, hyg, hyn, hyc, hyB⟩ := owns_seg hO
      have HO := hide hO
      obtain rfl := hyB.at' (by omega)
      have Hyg := hide hyg
      clear hyB hyg hO hE hs HL
      generalize dv n B (j + 1) = x at *
      go_wp2_with fail
      refine (rev_own w.heap.size yg (j + 1) yc (dg n B) wr HO.out (by have := HJ.out; omega)).mono ?_
      rintro e w1 ⟨rfl, hr, hT⟩
      have HR := hide hr
      have HB := hide (hT.ext HE.out Hyg.out)
      clear hr hT
      go_wp2
      go_ret
      exact ⟨_, rfl, owns_congr HR.out (fun i hi => by show dg n B (j + 1 - 1 - i) = _; rw [show j + 1 - 1 - i = j - i by omega]), HB.out⟩
    · have hh : j < L := by
        have h2 := HL.out.yes
        by_cases e : j = L
        · subst e; exact absurd h2 hs
        · omega
      have x0 : (0 : Int) < dv n B (j + 1) := by omega
      have HE := hide hE
      have Hsz := hide (Below.size hE)
      have HJ := hide (Nat.lt_of_lt_of_le hh (HL.out.le HB.out h0 h1))
      have H8 : Hid (dv n B (j + 1 + 1) = dv n B (j + 1) / B) := rfl
      have Hy : Hid (dg n B (j + 1) = dv n B (j + 1) % B) := rfl
      have m0 : (dv n B (j + 1)).tmod B = dv n B (j + 1) % B := Int.tmod_eq_emod_of_nonneg hb0
      have q0 : (dv n B (j + 1)).tdiv B = dv n B (j + 1) / B := Int.tdiv_eq_ediv_of_nonneg hb0
      have u0 : dv n B (j + 1) % B % 256 = dv n B (j + 1) % B := by rcases HB.out with rfl | rfl <;> omega
      have l0 : 0 ≤ dv n B (j + 1) % B := Int.emod_nonneg _ b2
      have l1 : dv n B (j + 1) % B < B := Int.emod_lt_of_pos _ b0
      have d0 : 0 ≤ dv n B (j + 1) / B := by rcases HB.out with rfl | rfl <;> omega
      have d1 : dv n B (j + 1) / B ≤ 9223372036854775807 := by rcases HB.out with rfl | rfl <;> omega
      have HO1 := hide hO
      have HO := hide (hO.alloc (.cells #[.int .u8 (dv n B (j + 1) % B)] 5))
      have HX := hide (bseg_one wr (dv n B (j + 1) % B))
      clear hO hE hs
      go_wp2_with (at_builtin; refine wpList_append_bs rfl _ _ rfl w.heap.size _ (j + 1) _ rfl HO.out _ wr.heap.size 0 1 1 (fun _ => dv n B (j + 1) % B) rfl HX.out (by have := HJ.out; omega) (by have := Hsz.out; simp; omega) ?_)
      intro v' w1 h2 h3
      rw [byts_append] at h2
      have H2 : Hid (w1.ownsRow w.heap.size 5 1 v' (j + 1 + 1) (byts (dg n B) (j + 1 + 1))) := hide (owns_congr h2 (fun i hi => by
        unfold catF
        split
        · rfl
        · rw [show i = j + 1 by omega]; rfl))
      have H3 : Hid (Ext w w1) := hide (Below.trans (Ext.trans HE.out (Ext.alloc _ _)) h3)
      clear h2 h3 HO HX
      go_wp2
      go_roundw
      case rel => exact ⟨j + 1, by omega, by rw [H8.out], H2.out, H3.out⟩
      case measure =>
        obtain ⟨_, _, _, rfl, -⟩ := owns_seg H2.out
        obtain ⟨_, _, _, rfl, -⟩ := owns_seg HO1.out
        have := HJ.out
        simp
        omega

end Go.Proofs.Ytigjjkondbdgjab
