/- Walks of small helpers: l1Digit, l1Norm; plain notions on digits behind a list's end. -/
import Derived.Test.YtmkmojcefgcmlaaLists
import Derived.Test.YtmkmojcefgcmlaaGives
import Derived.Test.YtmkmojcefgcmlaaNoughts
import Derived.OwnWalk
import Derived.Maps.AppendAt
namespace Go.Proofs.Ytmkmojcefgcmlaa
set_option linter.unusedVariables false
open Go.RowKit

/-- The digit at a place; 0 behind the end. -/
def ext (n : Nat) (f : Nat → Int) (i : Nat) : Int := if i < n then f i else 0

theorem ext_in {n i : Nat} {f : Nat → Int} (h : i < n) : ext n f i = f i := by simp [ext, h]
theorem ext_out {n i : Nat} {f : Nat → Int} (h : n ≤ i) : ext n f i = 0 := by simp [ext, show ¬ i < n by omega]
theorem ext_bd {n : Nat} {f : Nat → Int} (h : Digs f n) (i : Nat) : 0 ≤ ext n f i ∧ ext n f i ≤ 65535 := by
  unfold ext
  by_cases e : i < n
  · rw [if_pos e]; exact h i e
  · rw [if_neg e]; omega
theorem ext_digs {n : Nat} {f : Nat → Int} (h : Digs f n) (m : Nat) : Digs (ext n f) m := fun i _ => ext_bd h i

theorem val_ext {n m : Nat} {f : Nat → Int} (h : n ≤ m) : val (ext n f) m = val f n := by
  rw [← val_noughts (f := ext n f) h (fun i h1 _ => ext_out h1)]
  exact val_congr (fun i hi => ext_in hi)

theorem ints_get (f : Nat → Int) (n j : Nat) (u : Value) (h : (ints f n)[j]? = some u) : j < n ∧ u = .int .i64 (f j) := by
  by_cases e : j < n
  · simp [ints, e] at h; exact ⟨e, h.symm⟩
  · simp [ints, e] at h

/-- A slice's cells, as append and copy ask for them. -/
theorem Seg.news {w : World} {b off n : Nat} {f : Nat → Int} {a : Option Addr} (h : Seg w a b off n f) : ∀ j u, (ints f n)[j]? = some u → w.cell? ((⟨b, off, none⟩ : Addr).add j) = some u := by
  intro j u hj
  obtain ⟨hlt, rfl⟩ := ints_get f n j u hj
  have e : Addr.add ⟨b, off, none⟩ j = ⟨b, off + j, none⟩ := by
    by_cases h0 : j = 0
    · subst h0; simp [Addr.add]
    · simp [Addr.add, h0]
  rw [e]
  exact h.cell j hlt

theorem Seg.news' {w : World} {b off n : Nat} {f : Nat → Int} {a : Option Addr} (h : Seg w a b off n f) : ∀ j u, (ints f n)[j]? = some u → w.cell? ⟨b, off + j, none⟩ = some u := by
  intro j u hj
  obtain ⟨hlt, rfl⟩ := ints_get f n j u hj
  exact h.cell j hlt

theorem ints_one (f : Nat → Int) (n : Nat) : ∀ u ∈ ints f n, u.oneCell' = true := by
  intro u hu
  simp only [ints, List.mem_map] at hu
  obtain ⟨i, _, rfl⟩ := hu
  rfl

set_option maxHeartbeats 400000 in
theorem l1Digit_any (a : Option Addr) (b off n cap : Nat) (f : Nat → Int) (i : Nat) (w : World) (hs : Seg w a b off n f) (hn : n ≤ 1048576) (hi : i ≤ 2097152) :
    Calls Try.prog 71 #[.slice a n cap, .int .i64 i] w fun e w' => e = .returned (.int .i64 (ext n f i)) ∧ w' = w := by
  by_cases h : i < n
  · obtain rfl := hs.at' (by omega)
    have hc := hs.cell i h
    have hin : (i : Int) < (n : Int) := by omega
    go_enter Try.func71, Try.ntmps71
    go_wp2
    go_ret
    exact ⟨ret_int (ext_in h).symm, rfl⟩
  · go_enter Try.func71, Try.ntmps71
    go_wp2
    go_ret
    exact ⟨ret_int (ext_out (by omega)).symm, rfl⟩

/-- What appends have gathered, where the list was never nil. -/
theorem own_some {w : World} {base : Nat} {e : TypeId} {v : Value} {n : Nat} {f : Nat → Int} (h : w.ownsRow base e 1 v n (ints f n)) (hv : v ≠ .slice none 0 0) :
    ∃ g cap, v = .slice (some ⟨g, 0, none⟩) n cap ∧ base ≤ g ∧ n ≤ cap ∧ Own w (some ⟨g, 0, none⟩) g 0 n f := by
  have h' := h
  rcases h.2 with ⟨rfl, rfl⟩ | ⟨g, cap, cur, rfl, hg, hb, hn, hm, hs, ht⟩
  · exact absurd rfl hv
  · refine ⟨g, cap, rfl, hg, hn, ?_⟩
    obtain ⟨a, g', cap', hv', hg', hO⟩ := own_of_owns h'
    simp only [Value.slice.injEq] at hv'
    obtain ⟨rfl, -, rfl⟩ := hv'
    by_cases h0 : n = 0
    · subst h0; exact Own.nil _ _ _ _ _
    · have := hO.at' (by omega)
      simp only [Option.some.injEq, Addr.mk.injEq] at this
      obtain ⟨rfl, -, -⟩ := this
      exact hO

/-- A new list without the noughts at its end. -/
def GivesNorm (w : World) (n : Nat) (f : Nat → Int) (e : Ending) (w' : World) : Prop :=
  ∃ g cap m, e = .returned (.slice (some ⟨g, 0, none⟩) m cap) ∧ m ≤ n ∧ m ≤ cap ∧ (∀ i, m ≤ i → i < n → f i = 0) ∧ (m = 0 ∨ f (m - 1) ≠ 0) ∧ w.heap.size ≤ g ∧ Own w' (some ⟨g, 0, none⟩) g 0 m f ∧ Below w.heap.size w w'

set_option maxHeartbeats 800000 in
theorem l1Norm_any (b off n cap : Nat) (f : Nat → Int) (w : World) (hs : Seg w (some ⟨b, off, none⟩) b off n f) (hn : n ≤ 1048576) (hcap : n ≤ cap) :
    Calls Try.prog 64 #[.slice (some ⟨b, off, none⟩) n cap] w fun e w' => GivesNorm w n f e w' := by
  obtain ⟨i0, hi, hz0, hz1, hz2⟩ := info_parts Try.info3
  go_enter Try.func64, Try.ntmps64
  go_wp2
  go_loop [3] (fun i => ∃ k : Nat, k ≤ n ∧ i = .int .i64 k ∧ ∀ j, k ≤ j → j < n → f j = 0) (fun i => (intOf i).toNat)
  case atStart => exact ⟨n, Nat.le_refl _, rfl, fun j h1 h2 => by omega⟩
  case round =>
    obtain ⟨k, hk, rfl, hd⟩ := hrel
    by_cases h0 : k = 0
    · subst h0
      have hz : decide ((0 : Int) < ((0 : Nat) : Int)) = false := by simp
      have hown := World.ownsRow_made (base := w.heap.size) (e := 3) (size := 1) w #[] 0 (Nat.le_refl _) (by simp) rfl
      go_wp2_with (at_builtin; refine wpList_append_own _ rfl _ _ 24 rfl w.heap.size 3 i0 (.int .i64 0) 1 8 Try.underlying24 hi hz0 hz1 hz2 rfl (by decide) _ _ _ rfl hown ⟨b, off, none⟩ 0 cap [] rfl rfl ?c1 ?c2 ?c3 ?c4 ?c5 ?_)
      intro v' w1 hown' hgrow hnil
      have hB : Below w.heap.size w w1 := ((Below.refl w.heap.size w).alloc (Nat.le_refl _) _).grown hgrow (by simp) (fun j hj => (hown.lt j hj).1)
      have hv : v' ≠ .slice none 0 0 := hnil
      obtain ⟨g', cap', hv', hg', hc', hO⟩ := own_some (n := 0) (f := f) hown' hv
      clear hown' hgrow hnil hv hown
      rw [hv']
      clear hv'
      go_wp2
      go_ret
      exact ⟨g', cap', 0, rfl, by omega, by omega, hd, .inl rfl, hg', hO, hB⟩
    · obtain ⟨m, rfl⟩ : ∃ m, k = m + 1 := ⟨k - 1, by omega⟩
      have hc := hs.cell m (by omega)
      have hmn : (m : Int) < (n : Int) := by omega
      have hpos : (0 : Int) < (m : Int) + 1 := by omega
      by_cases hf : f m = 0
      · have hb : (f m == 0) = true := by simp [hf]
        go_wp2
        go_round
        case rel => exact ⟨m, by omega, by go_num, fun j h1 h2 => by
                      by_cases e : j = m
                      · subst e; exact hf
                      · exact hd j (by omega) h2⟩
        case measure => simp [intOf]
      · have hb : (f m == 0) = false := by simp [hf]
        have hown := World.ownsRow_made (base := w.heap.size) (e := 3) (size := 1) w #[] 0 (Nat.le_refl _) (by simp) rfl
        have hcap' : (m : Int) + 1 ≤ (cap : Int) := by omega
        go_wp2_with (at_builtin; refine wpList_append_own _ rfl _ _ 24 rfl w.heap.size 3 i0 (.int .i64 0) 1 8 Try.underlying24 hi hz0 hz1 hz2 rfl (by decide) _ _ _ rfl hown ⟨b, off, none⟩ (m + 1) cap (ints f (m + 1)) rfl ?d0 ?d1 (ints_one f (m + 1)) ?d3 ?d4 ?d5 ?_)
        case d0 => rw [ints_length]
        case d1 => exact ((hs.cut (show m + 1 ≤ n by omega)).of_all ((Below.refl _ _).alloc (Nat.le_refl _) _)).news'
        case d3 => unfold maxLen; omega
        case d4 => omega
        intro v' w1 hown' hgrow hnil
        have hB : Below w.heap.size w w1 := ((Below.refl w.heap.size w).alloc (Nat.le_refl _) _).grown hgrow (by simp) (fun j hj => (hown.lt j hj).1)
        have hv : v' ≠ .slice none 0 0 := hnil
        obtain ⟨g', cap', hv', hg', hc', hO⟩ := own_some (f := f) (by simpa using hown') hv
        clear hown' hgrow hnil hv hown
        rw [hv']
        clear hv'
        go_wp2
        go_ret
        exact ⟨g', cap', m + 1, rfl, by omega, by omega, hd, .inr (by simpa using hf), hg', hO, hB⟩

end Go.Proofs.Ytmkmojcefgcmlaa
