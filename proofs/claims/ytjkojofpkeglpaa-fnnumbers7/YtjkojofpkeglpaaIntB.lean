/- Walks: IntBytes of the model and of the program. -/
import Derived.Test.YtjkojofpkeglpaaBCat
import Derived.Test.YtjkojofpkeglpaaRev
namespace Go.Proofs.Ytjkojofpkeglpaa
set_option linter.unusedVariables false
set_option linter.unusedSimpArgs false
open Go.RowKit

/-- A new list of bytes, one's own. -/
def GivesBs (w : World) (M : Nat) (F : Nat → Int) (e : Ending) (w' : World) : Prop :=
  ∃ a g cap, e = .returned (.slice a M cap) ∧ w.heap.size ≤ g ∧ BOwn w' a g 0 M F ∧ Below w.heap.size w w'

/-- A new list of bytes, one's own, and ok. -/
def GivesBo (w : World) (M : Nat) (F : Nat → Int) (ok : Bool) (e : Ending) (w' : World) : Prop :=
  ∃ a g cap, e = .returned (.tuple #[.slice a M cap, .bool ok]) ∧ w.heap.size ≤ g ∧ BOwn w' a g 0 M F ∧ Below w.heap.size w w'

/-- One byte is enough for it. -/
def small (n : Int) : Bool := decide (-128 ≤ n) && decide (n ≤ 127)
/-- What is left of it without its k lowest bytes. -/
def hi8 (n : Int) : Nat → Int
  | 0 => n
  | k + 1 => hi8 n k / 256
/-- Its bytes, the lowest first. -/
def ib (n : Int) (k : Nat) : Int := hi8 n k % 256
/-- L bytes and one more are just enough for it. -/
structure IsLen (n : Int) (L : Nat) : Prop where
  yes : small (hi8 n L) = true
  no : ∀ j, j < L → small (hi8 n j) = false
  le : L ≤ 7

def ilen (n : Int) : Nat := if small n then 0 else if small (hi8 n 1) then 1 else if small (hi8 n 2) then 2 else if small (hi8 n 3) then 3 else if small (hi8 n 4) then 4 else if small (hi8 n 5) then 5 else if small (hi8 n 6) then 6 else 7

theorem hi8_bound (n : Int) (h0 : -9223372036854775808 ≤ n) (h1 : n ≤ 9223372036854775807) (k : Nat) : -9223372036854775808 ≤ hi8 n k ∧ hi8 n k ≤ 9223372036854775807 := by
  induction k with
  | zero => exact ⟨h0, h1⟩
  | succ k ih => simp only [hi8]; omega
theorem ilen_is (n : Int) (h0 : -9223372036854775808 ≤ n) (h1 : n ≤ 9223372036854775807) : IsLen n (ilen n) := by
  have e7 : small (hi8 n 7) = true := by
    have : hi8 n 7 = n / 256 / 256 / 256 / 256 / 256 / 256 / 256 := rfl
    simp only [this, small, Bool.and_eq_true, decide_eq_true_eq]
    omega
  have lt (j L : Nat) (h : j < L) (hL : L ≤ 7) : j = 0 ∨ j = 1 ∨ j = 2 ∨ j = 3 ∨ j = 4 ∨ j = 5 ∨ j = 6 := by omega
  unfold ilen
  have s0 : small n = small (hi8 n 0) := rfl
  rw [s0]
  cases c0 : small (hi8 n 0)
  · cases c1 : small (hi8 n 1)
    · cases c2 : small (hi8 n 2)
      · cases c3 : small (hi8 n 3)
        · cases c4 : small (hi8 n 4)
          · cases c5 : small (hi8 n 5)
            · cases c6 : small (hi8 n 6)
              · exact ⟨e7, fun j hj => by have : j < 7 := hj; rcases lt j 7 this (by omega) with rfl | rfl | rfl | rfl | rfl | rfl | rfl <;> assumption, by simp⟩
              · exact ⟨c6, fun j hj => by have : j < 6 := hj; rcases lt j 6 this (by omega) with rfl | rfl | rfl | rfl | rfl | rfl | rfl <;> first | assumption | omega, by simp⟩
            · exact ⟨c5, fun j hj => by have : j < 5 := hj; rcases lt j 5 this (by omega) with rfl | rfl | rfl | rfl | rfl | rfl | rfl <;> first | assumption | omega, by simp⟩
          · exact ⟨c4, fun j hj => by have : j < 4 := hj; rcases lt j 4 this (by omega) with rfl | rfl | rfl | rfl | rfl | rfl | rfl <;> first | assumption | omega, by simp⟩
        · exact ⟨c3, fun j hj => by have : j < 3 := hj; rcases lt j 3 this (by omega) with rfl | rfl | rfl | rfl | rfl | rfl | rfl <;> first | assumption | omega, by simp⟩
      · exact ⟨c2, fun j hj => by have : j < 2 := hj; rcases lt j 2 this (by omega) with rfl | rfl | rfl | rfl | rfl | rfl | rfl <;> first | assumption | omega, by simp⟩
    · exact ⟨c1, fun j hj => by have : j < 1 := hj; rcases lt j 1 this (by omega) with rfl | rfl | rfl | rfl | rfl | rfl | rfl <;> first | assumption | omega, by simp⟩
  · exact ⟨c0, fun j hj => by have : j < 0 := hj; omega, by simp⟩

theorem small_true {n : Int} (h : small n = true) : -128 ≤ n ∧ n ≤ 127 := by simpa [small] using h
theorem small_false {n : Int} (h : small n = false) : n < -128 ∨ 127 < n := by
  simp [small] at h
  omega

theorem byt_one (x : Int) : ([Value.int .u8 x] : List Value) = byts (fun _ => x) 1 := rfl

theorem bseg_one (w : World) (x : Int) : BSeg (w.alloc (.cells #[.int .u8 x] 5)) (some ⟨w.heap.size, 0, none⟩) w.heap.size 0 1 (fun _ => x) := ⟨fun _ => rfl, fun i hi => by
    have := Blk.alloc w [.int .u8 x] 5
    have e : i = 0 := by omega
    subst e
    exact (this 0 _ rfl).1⟩

theorem owns_one8 (w : World) (x : Int) : (w.alloc (.cells #[.int .u8 x] 5)).ownsRow w.heap.size 5 1 (.slice (some ⟨w.heap.size, 0, none⟩) 1 1) 1 (byts (fun _ => x) 1) :=
  ⟨rfl, .inr ⟨w.heap.size, 1, #[.int .u8 x], rfl, Nat.le_refl _, heap_alloc_new w _, Nat.le_refl _, by decide, by simp, by simp [byts]⟩⟩

set_option maxHeartbeats 1600000 in
set_option maxRecDepth 100000 in
theorem implIntBytes_any (n : Int) (L : Nat) (hL : IsLen n L) (w : World) (h0 : -9223372036854775808 ≤ n) (h1 : n ≤ 9223372036854775807) :
    Calls Try.prog 10 #[.int .i64 n] w fun e w' => GivesBs w (L + 1) (fun i => ib n (L - i)) e w' := by
  have HL := hide hL
  have HO := hide (owns_one8 w (n % 256))
  have HE := hide (Ext.alloc w (.cells #[.int .u8 (n % 256)] 5))
  clear hL
  go_enter Try.func10, Try.ntmps10
  go_wp2
  go_loopw [0, 3] (fun x v wr => ∃ j : Nat, j ≤ L ∧ x = .int .i64 (hi8 n j) ∧ wr.ownsRow w.heap.size 5 1 v (j + 1) (byts (ib n) (j + 1)) ∧ Ext w wr) (fun _ v _ => 8 - (match v with | .slice _ n _ => n | _ => 0))
  case atStart => exact ⟨0, by omega, rfl, HO.out, HE.out⟩
  case round =>
    clear HO HE
    obtain ⟨j, hj, rfl, hO, hE⟩ := hrel
    obtain ⟨hb0, hb1⟩ := hi8_bound n h0 h1 j
    by_cases hs : small (hi8 n j) = true
    · have e : j = L := by
        have := HL.out.no
        by_cases hh : j < L
        · have := this j hh; rw [hs] at this; cases this
        · omega
      subst e
      have HJ := hide HL.out.le
      obtain ⟨s0, s1⟩ := small_true hs
      have HO := hide hO
      have HE := hide hE
      have Hs := hide hs
      clear hO hE hs HL
      obtain ⟨ya, yg, yc, rfl, hyg, -, -, hyB⟩ := owns_seg HO.out
      have HyB := hide hyB
      have Hyg := hide hyg
      clear hyB hyg HO
      generalize hi8 n j = x at *
      have hq : x / 128 = 0 ∨ x / 128 = -1 := by omega
      rcases hq with hq | hq <;> (
        go_wp2_with fail
        refine (rev_any ya yg 0 (j + 1) yc (ib n) wr HyB.out (by have := HJ.out; omega)).mono ?_
        rintro e w1 ⟨rfl, hr, hT⟩
        have HR := hide hr
        have HB := hide (below_touch HE.out hT Hyg.out)
        clear hr hT
        go_wp2
        go_ret
        exact ⟨_, _, _, rfl, Hyg.out, HR.out.congr (fun i hi => by rw [show j + 1 - 1 - i = j - i by omega]), HB.out⟩)
    · have hs' : small (hi8 n j) = false := by simpa using hs
      have hh : j < L := by
        have h2 := HL.out.yes
        by_cases e : j = L
        · subst e; exact absurd h2 hs
        · omega
      have s0 := small_false hs'
      have HO := hide (hO.alloc (.cells #[.int .u8 (ib n (j + 1))] 5))
      have HE := hide hE
      have Hsz := hide (Below.size hE)
      have HJ := hide (Nat.lt_of_lt_of_le hh HL.out.le)
      have H8 : Hid (hi8 n (j + 1) = hi8 n j / 256) := rfl
      have q0 : (hi8 n j / 128 != 0) = true := by simp; omega
      have q1 : (hi8 n j / 128 != -1) = true := by simp; omega
      obtain ⟨y, hy⟩ : ∃ y, ib n (j + 1) = y := ⟨_, rfl⟩
      have hy1 : hi8 n j / 256 % 256 = y := by rw [← hy]; rfl
      have HB := hide (bseg_one wr y)
      rw [hy] at HO
      have Hy := hide hy
      have HO1 := hide hO
      clear hO hE hs hs' hy
      go_wp2_with (at_builtin; refine wpList_append_bs rfl _ _ rfl w.heap.size _ (j + 1) _ rfl HO.out _ wr.heap.size 0 1 1 (fun _ => y) rfl HB.out (by have := HJ.out; omega) (by have := Hsz.out; simp; omega) ?_)
      intro v' w1 h2 h3
      rw [byts_append] at h2
      have H2 : Hid (w1.ownsRow w.heap.size 5 1 v' (j + 1 + 1) (byts (ib n) (j + 1 + 1))) := hide (owns_congr h2 (fun i hi => by
        unfold catF
        split
        · rfl
        · rw [← Hy.out, show i = j + 1 by omega]))
      have H3 : Hid (Ext w w1) := hide (Below.trans (Ext.trans HE.out (Ext.alloc _ _)) h3)
      clear h2 h3 HO HB
      go_wp2
      go_roundw
      case rel => exact ⟨j + 1, by omega, by rw [H8.out], H2.out, H3.out⟩
      case measure =>
        obtain ⟨_, _, _, rfl, -⟩ := owns_seg H2.out
        obtain ⟨_, _, _, rfl, -⟩ := owns_seg HO1.out
        have := HJ.out
        simp
        omega

set_option maxHeartbeats 1600000 in
set_option maxRecDepth 100000 in
theorem specIntBytes_any (n : Int) (L : Nat) (hL : IsLen n L) (w : World) (h0 : -9223372036854775808 ≤ n) (h1 : n ≤ 9223372036854775807) :
    Calls Try.prog 9 #[.int .i64 n] w fun e w' => GivesBs w (L + 1) (fun i => ib n (L - i)) e w' := by
  have HL := hide hL
  have HO := hide (owns_one8 w (n % 256))
  have HE := hide (Ext.alloc w (.cells #[.int .u8 (n % 256)] 5))
  clear hL
  go_enter Try.func9, Try.ntmps9
  go_wp2
  go_loopw [0, 3] (fun x v wr => ∃ j : Nat, j ≤ L ∧ x = .int .i64 (hi8 n j) ∧ wr.ownsRow w.heap.size 5 1 v (j + 1) (byts (fun i => ib n (j - i)) (j + 1)) ∧ Ext w wr) (fun _ v _ => 8 - (match v with | .slice _ n _ => n | _ => 0))
  case atStart => exact ⟨0, by omega, rfl, owns_congr HO.out (fun i hi => by rw [show 0 - i = 0 by omega]; rfl), HE.out⟩
  case round =>
    clear HO HE
    obtain ⟨j, hj, rfl, hO, hE⟩ := hrel
    obtain ⟨hb0, hb1⟩ := hi8_bound n h0 h1 j
    by_cases hs : small (hi8 n j) = true
    · have e : j = L := by
        have := HL.out.no
        by_cases hh : j < L
        · have := this j hh; rw [hs] at this; cases this
        · omega
      subst e
      have HJ := hide HL.out.le
      obtain ⟨s0, s1⟩ := small_true hs
      have HO := hide hO
      have HE := hide hE
      have Hs := hide hs
      clear hO hE hs HL
      obtain ⟨ya, yg, yc, rfl, hyg, -, -, hyB⟩ := owns_seg HO.out
      have HyB := hide hyB
      have Hyg := hide hyg
      clear hyB hyg HO
      generalize hi8 n j = x at *
      go_wp2
      go_ret
      exact ⟨_, _, _, rfl, Hyg.out, HyB.out, HE.out⟩
    · have hs' : small (hi8 n j) = false := by simpa using hs
      have hh : j < L := by
        have h2 := HL.out.yes
        by_cases e : j = L
        · subst e; exact absurd h2 hs
        · omega
      have s0 := small_false hs'
      obtain ⟨ya, yg, yc, rfl, hyg, -, -, hyB⟩ := owns_seg hO
      have HE := hide hE
      have Hsz := hide (Below.size hE)
      have HJ := hide (Nat.lt_of_lt_of_le hh HL.out.le)
      have H8 : Hid (hi8 n (j + 1) = hi8 n j / 256) := rfl
      have q0 : 127 < hi8 n j ∨ ¬ 127 < hi8 n j ∧ hi8 n j < -128 := by omega
      obtain ⟨y, hy⟩ : ∃ y, ib n (j + 1) = y := ⟨_, rfl⟩
      have hy1 : hi8 n j / 256 % 256 = y := by rw [← hy]; rfl
      have HB := hide (hyB.toBSeg.of_all (Ext.alloc wr (.cells #[.int .u8 y] 5)))
      have HO := hide (owns_mono (owns_one8 wr y) (Below.size hE))
      have Hy := hide hy
      clear hO hE hs hs' hy hyg hyB s0
      rcases q0 with q0 | ⟨q0, q1⟩ <;> (
        go_wp2_with (at_builtin; refine wpList_append_bs rfl _ _ rfl w.heap.size _ 1 (byts (fun _ => y) 1) rfl HO.out _ yg 0 (j + 1) yc (fun i => ib n (j - i)) rfl HB.out (by have := HJ.out; omega) (by have := Hsz.out; simp; omega) ?_)
        intro v' w1 h2 h3
        rw [byts_append] at h2
        have H2 : Hid (w1.ownsRow w.heap.size 5 1 v' (j + 1 + 1) (byts (fun i => ib n (j + 1 - i)) (j + 1 + 1))) := hide (by
          rw [show j + 1 + 1 = 1 + (j + 1) by omega]
          refine owns_congr h2 (fun i hi => ?_)
          unfold catF
          split
          · rw [← Hy.out, show j + 1 - i = j + 1 by omega]
          · show ib n (j - (i - 1)) = _
            rw [show j - (i - 1) = j + 1 - i by omega])
        have H3 : Hid (Ext w w1) := hide (Below.trans (Ext.trans HE.out (Ext.alloc _ _)) h3)
        clear h2 h3 HO HB
        go_wp2
        go_roundw
        case rel => exact ⟨j + 1, by omega, by rw [H8.out], H2.out, H3.out⟩
        case measure =>
          obtain ⟨_, _, _, rfl, -⟩ := owns_seg H2.out
          have := HJ.out
          simp
          omega)

end Go.Proofs.Ytjkojofpkeglpaa
