/- Walks: NatBytes, the model's and the program's. -/
import Derived.Test.YtojgnbckikpgmahNorm
import Derived.Test.YtojgnbckikpgmahL1Bits
import Derived.Test.YtojgnbckikpgmahBLists
namespace Go.Proofs.Ytojgnbckikpgmah
set_option linter.unusedVariables false
open Go.RowKit

/-- The byte at a place, counted from the low end. -/
def byt (n : Nat) (f : Nat → Int) (i : Nat) : Int := if i % 2 = 0 then ext n f (i / 2) % 256 else ext n f (i / 2) / 256

/-- NatBytes' second answer. -/
def bytB (n : Nat) (f : Nat → Int) (sz : Int) : Bool := natOk n f && (decide (0 ≤ sz) && decide (sz ≤ 128)) && decide (bitsOf n f ≤ 8 * sz)

/-- The call hands back those bytes in new memory, and ok. -/
def GivesB (w : World) (m : Nat) (F : Nat → Int) (ok : Bool) (e : Ending) (w' : World) : Prop :=
  ∃ a g cap, e = .returned (.tuple #[.slice a m cap, .bool ok]) ∧ w.heap.size ≤ g ∧ BOwn w' a g 0 m F ∧ Below w.heap.size w w'

/-- NatBytes' answer. -/
def GivesBytes (w : World) (n : Nat) (f : Nat → Int) (sz : Int) (e : Ending) (w' : World) : Prop :=
  GivesB w (if bytB n f sz then sz.toNat else 0) (fun p => byt n f (sz.toNat - 1 - p)) (bytB n f sz) e w'

theorem GivesBytes.none {w w' : World} {n : Nat} {f : Nat → Int} {sz : Int} {e : Ending} {a : Option Addr} {cap : Nat} (hq : bytB n f sz = false) (he : e = .returned (.tuple #[.slice a 0 cap, .bool false])) (hb : Below w.heap.size w w') : GivesBytes w n f sz e w' := by
  unfold GivesBytes
  rw [hq]
  exact ⟨a, w.heap.size, cap, he, Nat.le_refl _, BOwn.nil _ _ _ _ _, hb⟩

theorem l1Digit_int (a : Option Addr) (b off n cap : Nat) (f : Nat → Int) (i : Nat) (ii : Int) (w : World) (hii : ii = i) (hs : Seg w a b off n f) (hn : n ≤ 1048576) (hi : i ≤ 2097152) :
    Calls Try.prog 20 #[.slice a n cap, .int .i64 ii] w fun e w' => e = .returned (.int .i64 (ext n f i)) ∧ w' = w := by
  subst hii
  exact l1Digit_any a b off n cap f i w hs hn hi

/-- What the model's NatBytes has done, the places from k on being told. -/
structure Telling (n : Nat) (f : Nat → Int) (s : Nat) (w wr : World) (v : Value) (k : Nat) : Prop where
  own : wr.ownsRow w.heap.size 5 1 v (s - k) (byts (fun p => byt n f (s - 1 - p)) (s - k))
  below : Below w.heap.size w wr

theorem telling_step {n : Nat} {f : Nat → Int} {s : Nat} {w wr w1 : World} {v v' : Value} {k : Nat} {o : Obj} {x : Int} (h : Telling n f s w wr v (k + 1)) (hk : k < s) (hx : x = byt n f k)
    (hown : w1.ownsRow w.heap.size 5 1 v' (s - (k + 1) + 1) (byts (fun p => byt n f (s - 1 - p)) (s - (k + 1)) ++ [.int .u8 x])) (hg : (wr.alloc o).grownBy w1 v.ownBlock) : Telling n f s w w1 v' k := by
  refine ⟨?_, (h.below.alloc h.below.size _).grown hg (by have := h.below.size; simp; omega) (fun j hj => (h.own.lt j hj).1)⟩
  have e : s - k = s - (k + 1) + 1 := by omega
  rw [e, byts_succ]
  rw [hx] at hown
  rw [show s - 1 - (s - (k + 1)) = k by omega]
  exact hown

theorem bone_cell (x : Int) : ∀ u ∈ [Value.int .u8 x], u.oneCell' = true := by
  intro u hu
  simp at hu
  subst hu
  rfl

set_option maxHeartbeats 1600000 in
theorem specNatBytes_any (a : Option Addr) (b off n cap : Nat) (f : Nat → Int) (sz : Int) (w : World) (hs : Seg w a b off n f) (hn : n ≤ 1048576) :
    Calls Try.prog 5 #[.slice a n cap, .int .i64 sz] w fun e w' => GivesBytes w n f sz e w' := by
  cases hok : natOk n f with
  | false =>
    have Hv : Hid (bytB n f sz = false) := by show _ = _; simp [bytB, hok]
    go_enter Try.func5, Try.ntmps5
    go_wp2_with fail
    refine (specNatOk_any a b off n cap f _ hs hn).mono ?_
    rintro e w' ⟨rfl, hw⟩
    obtain rfl := hw.symm
    rw [hok]
    clear hok
    go_wp2
    go_ret2
    exact GivesBytes.none Hv.out rfl ((Below.refl _ _).alloc (Nat.le_refl _) _)
  | true =>
    have hd : Digs f n := ((natOk_iff n f).1 hok).1
    have ht := ok_top hok
    cases hin : (decide (0 ≤ sz) && decide (sz ≤ 128)) with
    | false =>
      have Hv : Hid (bytB n f sz = false) := by show _ = _; simp [bytB, hin]
      go_enter Try.func5, Try.ntmps5
      go_wp2_with fail
      refine (specNatOk_any a b off n cap f _ hs hn).mono ?_
      rintro e w' ⟨rfl, hw⟩
      obtain rfl := hw.symm
      rw [hok]
      clear hok
      go_wp2_with fail
      refine (l1In_any sz 0 128 _).mono ?_
      rintro e w' ⟨rfl, hw⟩
      obtain rfl := hw.symm
      rw [hin]
      clear hin
      go_wp2
      go_ret2
      exact GivesBytes.none Hv.out rfl ((Below.refl _ _).alloc (Nat.le_refl _) _)
    | true =>
      have hr : 0 ≤ sz ∧ sz ≤ 128 := by simpa using hin
      obtain ⟨s, rfl⟩ := Int.eq_ofNat_of_zero_le hr.1
      have hs128 : s ≤ 128 := by omega
      clear hr
      by_cases hfit : bitsOf n f ≤ 8 * (s : Int)
      · have Hv : Hid (bytB n f s = true) := by show _ = _; unfold bytB; rw [hok, hin]; simp [hfit]
        obtain ⟨i0, hi, hz0, hz1, hz2⟩ := info_parts Try.info5
        go_enter Try.func5, Try.ntmps5
        go_wp2_with fail
        refine (specNatOk_any a b off n cap f _ hs hn).mono ?_
        rintro e w' ⟨rfl, hw⟩
        obtain rfl := hw.symm
        rw [hok]
        clear hok
        go_wp2_with fail
        refine (l1In_any s 0 128 _).mono ?_
        rintro e w' ⟨rfl, hw⟩
        obtain rfl := hw.symm
        rw [hin]
        clear hin
        go_wp2_with fail
        refine (l1Bits_any a b off n cap f _ hs hn ht).mono ?_
        rintro e w' ⟨rfl, hw⟩
        obtain rfl := hw.symm
        go_wp2
        go_loopw [6, 7] (fun v i wr => ∃ k : Nat, k ≤ s ∧ i = .int .i64 ((k : Int) - 1) ∧ Telling n f s w wr v k) (fun _ i _ => (intOf i + 1).toNat)
        case atStart => exact ⟨s, Nat.le_refl _, by go_num, by rw [Nat.sub_self]; exact World.ownsRow_made w #[] 0 (Nat.le_refl _) (by simp) rfl, (Below.refl _ _).alloc (Nat.le_refl _) _⟩
        case round =>
          obtain ⟨k, hk, rfl, hT⟩ := hrel
          by_cases h0 : k = 0
          · subst h0
            obtain ⟨a', g', cap', hv', hg', hO⟩ := bown_of_owns hT.own
            have hb := hT.below
            rw [hv']
            clear hv' hT
            go_wp2
            go_ret2
            unfold GivesBytes
            rw [Hv.out]
            exact ⟨a', g', cap', rfl, hg', hO, hb⟩
          · obtain ⟨m, rfl⟩ : ∃ m, k = m + 1 := ⟨k - 1, by omega⟩
            have sA := hs.of_all hT.below
            obtain ⟨y0, y1⟩ := ext_bd hd (m / 2)
            rcases Nat.mod_two_eq_zero_or_one m with hm | hm
            · have hr : (m : Int) % 2 = 0 := by omega
              obtain ⟨j, hj⟩ : ∃ j : Nat, j = m / 2 := ⟨_, rfl⟩
              have hq : (m : Int) / 2 = (j : Int) := by omega
              rw [← hj] at y0 y1
              have Hb : Hid (ext n f j % 256 = byt n f m) := by show _ = _; simp [byt, hm, hj]
              clear hj
              go_wp2_with fail
              refine (l1Digit_any a b off n cap f j _ sA (by omega) (by omega)).mono ?_
              rintro e w' ⟨rfl, hw⟩
              obtain rfl := hw.symm
              generalize ext n f j = y at *
              go_wp2_with (at_builtin; (refine wpList_append_own _ rfl _ _ 23 rfl w.heap.size 5 i0 (.int .u8 0) 1 1 Try.underlying23 hi hz0 hz1 hz2 rfl (by decide) _ _ _ rfl (hT.own.alloc _) ⟨wr.heap.size, 0, none⟩ 1 1 [.int .u8 (y % 256)] rfl rfl (cell_one_new _ _ _) (bone_cell _) (by unfold maxLen; omega) (by omega) (by have := hT.below.size; simp; omega) ?_); intro v' w1 hown' hgrow hnil)
              have hN := telling_step hT (by omega) Hb.out hown' hgrow
              clear hown' hgrow hnil hT
              go_wp2
              go_roundw
              case rel => exact ⟨m, by omega, by go_num, hN⟩
              case measure => simp [intOf]
            · have hr : (m : Int) % 2 = 1 := by omega
              obtain ⟨j, hj⟩ : ∃ j : Nat, j = m / 2 := ⟨_, rfl⟩
              have hq : (m : Int) / 2 = (j : Int) := by omega
              rw [← hj] at y0 y1
              have Hb : Hid (ext n f j / 256 = byt n f m) := by show _ = _; simp [byt, hm, hj]
              clear hj
              go_wp2_with fail
              refine (l1Digit_any a b off n cap f j _ sA (by omega) (by omega)).mono ?_
              rintro e w' ⟨rfl, hw⟩
              obtain rfl := hw.symm
              generalize ext n f j = y at *
              go_wp2_with (at_builtin; (refine wpList_append_own _ rfl _ _ 23 rfl w.heap.size 5 i0 (.int .u8 0) 1 1 Try.underlying23 hi hz0 hz1 hz2 rfl (by decide) _ _ _ rfl (hT.own.alloc _) ⟨wr.heap.size, 0, none⟩ 1 1 [.int .u8 (y / 256)] rfl rfl (cell_one_new _ _ _) (bone_cell _) (by unfold maxLen; omega) (by omega) (by have := hT.below.size; simp; omega) ?_); intro v' w1 hown' hgrow hnil)
              have hN := telling_step hT (by omega) Hb.out hown' hgrow
              clear hown' hgrow hnil hT
              go_wp2
              go_roundw
              case rel => exact ⟨m, by omega, by go_num, hN⟩
              case measure => simp [intOf]
      · have Hv : Hid (bytB n f s = false) := by show _ = _; simp [bytB, hfit]
        have hgt : 8 * (s : Int) < bitsOf n f := by omega
        go_enter Try.func5, Try.ntmps5
        go_wp2_with fail
        refine (specNatOk_any a b off n cap f _ hs hn).mono ?_
        rintro e w' ⟨rfl, hw⟩
        obtain rfl := hw.symm
        rw [hok]
        clear hok
        go_wp2_with fail
        refine (l1In_any s 0 128 _).mono ?_
        rintro e w' ⟨rfl, hw⟩
        obtain rfl := hw.symm
        rw [hin]
        clear hin
        go_wp2_with fail
        refine (l1Bits_any a b off n cap f _ hs hn ht).mono ?_
        rintro e w' ⟨rfl, hw⟩
        obtain rfl := hw.symm
        go_wp2
        go_ret2
        exact GivesBytes.none Hv.out rfl ((Below.refl _ _).alloc (Nat.le_refl _) _)
end Go.Proofs.Ytojgnbckikpgmah
