/- Walk: l1Norm once more, its answer told as a row that can be appended to. -/
import Derived.Test.YtmkmojcefgcmlaaNorm
namespace Go.Proofs.Ytmkmojcefgcmlaa
set_option linter.unusedVariables false
open Go.RowKit

/-- The same, and the row is told whole, so that it can be appended to. -/
def GivesNorm2 (w : World) (n : Nat) (f : Nat → Int) (e : Ending) (w' : World) : Prop :=
  ∃ g cap m, e = .returned (.slice (some ⟨g, 0, none⟩) m cap) ∧ m ≤ n ∧ m ≤ cap ∧ (∀ i, m ≤ i → i < n → f i = 0) ∧ (m = 0 ∨ f (m - 1) ≠ 0) ∧ w.heap.size ≤ g ∧ Own w' (some ⟨g, 0, none⟩) g 0 m f ∧ Below w.heap.size w w' ∧
    w'.ownsRow w.heap.size 3 1 (.slice (some ⟨g, 0, none⟩) m cap) m (ints f m)

set_option maxHeartbeats 800000 in
theorem l1Norm_owns (b off n cap : Nat) (f : Nat → Int) (w : World) (hs : Seg w (some ⟨b, off, none⟩) b off n f) (hn : n ≤ 1048576) (hcap : n ≤ cap) :
    Calls Try.prog 64 #[.slice (some ⟨b, off, none⟩) n cap] w fun e w' => GivesNorm2 w n f e w' := by
  obtain ⟨i0, hi, hz0, hz1, hz2⟩ := info_parts Try.info3
  go_enter Try.func64, Try.ntmps64
  go_wp2
  go_loop [3] (fun i => ∃ k : Nat, k ≤ n ∧ i = .int .i64 k ∧ ∀ j, k ≤ j → j < n → f j = 0) (fun i => (intOf i).toNat)
  case atStart => exact ⟨n, Nat.le_refl _, rfl, fun j h1 h2 => by omega⟩
  case round =>
    obtain ⟨k, hk, rfl, hd⟩ := hrel
    by_cases h0 : k = 0
    · subst h0
      have hz : decide ((0 : Int) < ((0 : Nat) : Int)) = false := by simp
      have hown := World.ownsRow_made (base := w.heap.size) (e := 3) (size := 1) w #[] 0 (Nat.le_refl _) (by simp) rfl
      go_wp2_with (at_builtin; refine wpList_append_own _ rfl _ _ 24 rfl w.heap.size 3 i0 (.int .i64 0) 1 8 Try.underlying24 hi hz0 hz1 hz2 rfl (by decide) _ _ _ rfl hown ⟨b, off, none⟩ 0 cap [] rfl rfl ?c1 ?c2 ?c3 ?c4 ?c5 ?_)
      intro v' w1 hown' hgrow hnil
      have hB : Below w.heap.size w w1 := ((Below.refl w.heap.size w).alloc (Nat.le_refl _) _).grown hgrow (by simp) (fun j hj => (hown.lt j hj).1)
      have hv : v' ≠ .slice none 0 0 := hnil
      obtain ⟨g', cap', hv', hg', hc', hO⟩ := own_some (n := 0) (f := f) hown' hv
      have hown2 := hown'
      rw [hv'] at hown2
      clear hown' hgrow hnil hv hown
      rw [hv']
      clear hv'
      go_wp2
      go_ret
      exact ⟨g', cap', 0, rfl, by omega, by omega, hd, .inl rfl, hg', hO, hB, hown2⟩
    · obtain ⟨m, rfl⟩ : ∃ m, k = m + 1 := ⟨k - 1, by omega⟩
      have hc := hs.cell m (by omega)
      have hmn : (m : Int) < (n : Int) := by omega
      have hpos : (0 : Int) < (m : Int) + 1 := by omega
      by_cases hf : f m = 0
      · have hb : (f m == 0) = true := by simp [hf]
        go_wp2
        go_round
        case rel => exact ⟨m, by omega, by go_num, fun j h1 h2 => by
                      by_cases e : j = m
                      · subst e; exact hf
                      · exact hd j (by omega) h2⟩
        case measure => simp [intOf]
      · have hb : (f m == 0) = false := by simp [hf]
        have hown := World.ownsRow_made (base := w.heap.size) (e := 3) (size := 1) w #[] 0 (Nat.le_refl _) (by simp) rfl
        have hcap' : (m : Int) + 1 ≤ (cap : Int) := by omega
        go_wp2_with (at_builtin; refine wpList_append_own _ rfl _ _ 24 rfl w.heap.size 3 i0 (.int .i64 0) 1 8 Try.underlying24 hi hz0 hz1 hz2 rfl (by decide) _ _ _ rfl hown ⟨b, off, none⟩ (m + 1) cap (ints f (m + 1)) rfl ?d0 ?d1 (ints_one f (m + 1)) ?d3 ?d4 ?d5 ?_)
        case d0 => rw [ints_length]
        case d1 => exact ((hs.cut (show m + 1 ≤ n by omega)).of_all ((Below.refl _ _).alloc (Nat.le_refl _) _)).news'
        case d3 => unfold maxLen; omega
        case d4 => omega
        intro v' w1 hown' hgrow hnil
        have hB : Below w.heap.size w w1 := ((Below.refl w.heap.size w).alloc (Nat.le_refl _) _).grown hgrow (by simp) (fun j hj => (hown.lt j hj).1)
        have hv : v' ≠ .slice none 0 0 := hnil
        obtain ⟨g', cap', hv', hg', hc', hO⟩ := own_some (f := f) (by simpa using hown') hv
        have hown2 := hown'
        rw [hv'] at hown2
        clear hown' hgrow hnil hv hown
        rw [hv']
        clear hv'
        go_wp2
        go_ret
        exact ⟨g', cap', m + 1, rfl, by omega, by omega, hd, .inr (by simpa using hf), hg', hO, hB, by simpa using hown2⟩

end Go.Proofs.Ytmkmojcefgcmlaa
