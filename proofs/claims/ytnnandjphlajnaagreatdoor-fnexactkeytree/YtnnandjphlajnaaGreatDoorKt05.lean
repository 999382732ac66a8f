/- Walks: bits.Len of a digit, and the program's digitsBits: how many bits a list of digits has. Walk: the model's l1Bits. Walks: NatBytes, the model's and the program's. Plain facts: the bytes of a natural, with a byte 0 ahead just where it is asked for; a byte ahead of others. Walks: the model's keys as items: l10Ints, l10Nat. -/
import Derived.Test.YtnnandjphlajnaaGreatDoorChecked
import Derived.Lib.BitFns
import Derived.Lib.Tables
import Derived.Test.YtnnandjphlajnaaGreatDoorKt01
import Derived.Test.YtnnandjphlajnaaGreatDoorKt04
import Derived.Test.YtnnandjphlajnaaGreatDoorKt03
namespace Go.Proofs.YtnnandjphlajnaaGreatDoor

section
set_option linter.unusedVariables false

open Go.RowKit

set_option maxRecDepth 100000 in
theorem tab_size : (Lib.len8tab.size : Int) = 256 := by
  have : Lib.len8tab.size = 256 := by decide
  omega

theorem tab_get (y : Int) (h : y.toNat < Lib.len8tab.size) (h0 : 0 ≤ y) (h1 : y ≤ 255) : ((Lib.len8tab[y.toNat]'h).toNat : Int) = (Lib.bitLen y.toNat : Int) := by
  rw [← Lib.len8_of y h0 h1]
  unfold Lib.len8
  rw [getElem?_pos Lib.len8tab y.toNat h]
  rfl

theorem bit_low (x : Int) (h0 : 0 ≤ x) (h1 : x ≤ 255) (h : x.toNat < Lib.len8tab.size) : wrap64 (wrap64 ((Lib.len8tab[x.toNat]'h).toNat : Int)) = (Lib.bitLen x.toNat : Int) := by
  rw [tab_get x h h0 h1]
  have := Lib.bitLen_le8' x h0 h1
  unfold wrap64
  omega

theorem bit_high (x : Int) (h0 : 256 ≤ x) (h1 : x ≤ 65535) (h : (x / 256).toNat < Lib.len8tab.size) : wrap64 (8 + wrap64 ((Lib.len8tab[(x / 256).toNat]'h).toNat : Int)) = (Lib.bitLen x.toNat : Int) := by
  rw [tab_get (x / 256) h (by omega) (by omega)]
  have l := Lib.bitLen_le8' (x / 256) (by omega) (by omega)
  rw [Lib.bitLen_shift8 x.toNat (by omega) (by omega), show (x / 256).toNat = x.toNat / 256 by omega] at *
  unfold wrap64
  omega

set_option maxHeartbeats 400000 in
set_option maxRecDepth 100000 in
theorem len64_any (x : Int) (w : World) (h0 : 0 ≤ x) (h1 : x ≤ 65535) :
    Calls Tryz.prog 308 #[.int .u64 x] w fun e w' => e = .returned (.int .i64 (Lib.bitLen x.toNat)) ∧ w' = w := by
  have n1 : ¬ (4294967296 : Int) ≤ x := by omega
  have n2 : ¬ (65536 : Int) ≤ x := by omega
  have hsz := tab_size
  by_cases h : 256 ≤ x
  · have n3 : 0 ≤ x / 256 := by omega
    have n4 : x / 256 < 256 := by omega
    go_enter Tryz.func308, Tryz.ntmps308
    go_wp2
    go_ret
    exact ⟨ret_int (bit_high x h h1 (by omega)), rfl⟩
  · go_enter Tryz.func308, Tryz.ntmps308
    go_wp2
    go_ret
    exact ⟨ret_int (bit_low x h0 (by omega) (by omega)), rfl⟩

set_option maxHeartbeats 400000 in
theorem len_any (x : Int) (w : World) (h0 : 0 ≤ x) (h1 : x ≤ 65535) :
    Calls Tryz.prog 266 #[.int .u64 x] w fun e w' => e = .returned (.int .i64 (Lib.bitLen x.toNat)) ∧ w' = w := by
  go_enter Tryz.func266, Tryz.ntmps266
  go_wp2_with fail
  refine (len64_any x _ h0 h1).mono ?_
  rintro e w' ⟨rfl, hw⟩
  subst hw
  go_wp2
  go_ret
  exact ⟨rfl, rfl⟩

/-- How many bits n digits have. -/
def bitsOf (n : Nat) (f : Nat → Int) : Int := if n = 0 then 0 else 16 * ((n : Int) - 1) + Lib.bitLen (f (n - 1)).toNat

theorem bitLen_le16 (x : Int) (h0 : 0 ≤ x) (h1 : x ≤ 65535) : Lib.bitLen x.toNat ≤ 16 := by
  by_cases h : 256 ≤ x
  · rw [Lib.bitLen_shift8 x.toNat (by omega) (by omega)]
    have := Lib.bitLen_le8' (x / 256) (by omega) (by omega)
    rw [show (x / 256).toNat = x.toNat / 256 by omega] at this
    omega
  · have := Lib.bitLen_le8' x h0 (by omega)
    omega

set_option maxHeartbeats 400000 in
theorem digitsBits_any (a : Option Addr) (b off n cap : Nat) (f : Nat → Int) (w : World) (hs : Seg w a b off n f) (hn : n ≤ 1048576) (hd : n = 0 ∨ (0 ≤ f (n - 1) ∧ f (n - 1) ≤ 65535)) :
    Calls Tryz.prog 215 #[.slice a n cap] w fun e w' => e = .returned (.int .i64 (bitsOf n f)) ∧ w' = w := by
  by_cases h0 : n = 0
  · subst h0
    go_enter Tryz.func215, Tryz.ntmps215
    go_wp2
    go_ret
    exact ⟨rfl, rfl⟩
  · obtain ⟨m, rfl⟩ : ∃ m, n = m + 1 := ⟨n - 1, by omega⟩
    obtain rfl := hs.at' (by omega)
    have hc := hs.cell m (by omega)
    have hdm : 0 ≤ f m ∧ f m ≤ 65535 := by simpa using hd.resolve_left h0
    obtain ⟨d0, d1⟩ := hdm
    clear hd
    have hz : ((m : Int) + 1 == 0) = false := by simp; omega
    have Hfin : Hid (bitsOf (m + 1) f = 16 * (m : Int) + Lib.bitLen (f m).toNat) := by
      show bitsOf (m + 1) f = _
      simp [bitsOf]
    have hl := bitLen_le16 (f m) d0 d1
    go_enter Tryz.func215, Tryz.ntmps215
    go_wp2_with fail
    refine (len_any (f m) _ d0 d1).mono ?_
    rintro e w' ⟨rfl, hw⟩
    subst hw
    go_wp2
    go_ret
    exact ⟨ret_int (by rw [Hfin.out]), rfl⟩
end

section
set_option linter.unusedVariables false

open Go.RowKit

set_option maxHeartbeats 400000 in
theorem l1Bits_any (a : Option Addr) (b off n cap : Nat) (f : Nat → Int) (w : World) (hs : Seg w a b off n f) (hn : n ≤ 1048576) (hd : n = 0 ∨ (0 ≤ f (n - 1) ∧ f (n - 1) ≤ 65535)) :
    Calls Tryz.prog 87 #[.slice a n cap] w fun e w' => e = .returned (.int .i64 (bitsOf n f)) ∧ w' = w := by
  by_cases h0 : n = 0
  · subst h0
    go_enter Tryz.func87, Tryz.ntmps87
    go_wp2
    go_ret
    exact ⟨rfl, rfl⟩
  · obtain ⟨m, rfl⟩ : ∃ m, n = m + 1 := ⟨n - 1, by omega⟩
    obtain rfl := hs.at' (by omega)
    have hc := hs.cell m (by omega)
    have hdm : 0 ≤ f m ∧ f m ≤ 65535 := by simpa using hd.resolve_left h0
    obtain ⟨d0, d1⟩ := hdm
    clear hd
    have hz : ((m : Int) + 1 == 0) = false := by simp; omega
    have Hfin : Hid (bitsOf (m + 1) f = 16 * (m : Int) + Lib.bitLen (f m).toNat) := by
      show bitsOf (m + 1) f = _
      simp [bitsOf]
    have hl := bitLen_le16 (f m) d0 d1
    generalize f m = top at *
    obtain ⟨t, rfl⟩ := Int.eq_ofNat_of_zero_le d0
    have Ht : Hid (((t : Int)).toNat = t) := Int.toNat_natCast t
    go_enter Tryz.func87, Tryz.ntmps87
    go_wp2
    go_loop [3, 4] (fun c x => ∃ y : Nat, y ≤ t ∧ Lib.bitLen y ≤ Lib.bitLen t ∧ x = .int .i64 y ∧ c = .int .i64 (16 * (m : Int) + (Lib.bitLen t - Lib.bitLen y : Nat))) (fun _ x => (intOf x).toNat)
    case atStart => exact ⟨t, by omega, by omega, rfl, by go_num⟩
    case round =>
      obtain ⟨y, hy, hb, rfl, rfl⟩ := hrel
      by_cases hy0 : y = 0
      · subst hy0
        have Hz : Hid (Lib.bitLen 0 = 0) := by show _ = _; decide
        go_wp2
        go_ret
        exact ⟨ret_int (by rw [Hfin.out, Ht.out, Hz.out]; omega), rfl⟩
      · have Hh : Hid (Lib.bitLen y = 1 + Lib.bitLen (y / 2)) := Lib.bitLen_half y hy0 (by omega)
        have hh := Hh.out
        have hb2 : Lib.bitLen t ≤ 16 := by simpa using hl
        have hm0 : 16 * (m : Int) + ((Lib.bitLen t - Lib.bitLen y : Nat) : Int) ≤ 16777300 := by omega
        have hm1 : 0 ≤ 16 * (m : Int) + ((Lib.bitLen t - Lib.bitLen y : Nat) : Int) := by omega
        have Hn : Hid (16 * (m : Int) + ((Lib.bitLen t - Lib.bitLen y : Nat) : Int) + 1 = 16 * (m : Int) + ((Lib.bitLen t - Lib.bitLen (y / 2) : Nat) : Int)) := by show _ = _; omega
        have hb3 : Lib.bitLen (y / 2) ≤ Lib.bitLen t := by omega
        have hyp : 0 < (y : Int) := by omega
        clear hh
        generalize 16 * (m : Int) + ((Lib.bitLen t - Lib.bitLen y : Nat) : Int) = c at *
        go_wp2
        go_round
        case rel => exact ⟨y / 2, by omega, hb3, by go_num, by rw [← Hn.out]⟩
        case measure => simp [intOf]; omega

theorem ok_top {n : Nat} {f : Nat → Int} (h : natOk n f = true) : n = 0 ∨ (0 ≤ f (n - 1) ∧ f (n - 1) ≤ 65535) := by
  by_cases h0 : n = 0
  · exact .inl h0
  · exact .inr (((natOk_iff n f).1 h).1 _ (by omega))
end

section
set_option linter.unusedVariables false

open Go.RowKit

/-- The byte at a place, counted from the low end. -/
def byt (n : Nat) (f : Nat → Int) (i : Nat) : Int := if i % 2 = 0 then ext n f (i / 2) % 256 else ext n f (i / 2) / 256

/-- NatBytes' second answer. -/
def bytB (n : Nat) (f : Nat → Int) (sz : Int) : Bool := natOk n f && (decide (0 ≤ sz) && decide (sz ≤ 128)) && decide (bitsOf n f ≤ 8 * sz)

/-- The call hands back those bytes in new memory, and ok. -/
def GivesB (w : World) (m : Nat) (F : Nat → Int) (ok : Bool) (e : Ending) (w' : World) : Prop :=
  ∃ a g cap, e = .returned (.tuple #[.slice a m cap, .bool ok]) ∧ w.heap.size ≤ g ∧ BOwn w' a g 0 m F ∧ Below w.heap.size w w'

/-- NatBytes' answer. -/
def GivesBytes (w : World) (n : Nat) (f : Nat → Int) (sz : Int) (e : Ending) (w' : World) : Prop :=
  GivesB w (if bytB n f sz then sz.toNat else 0) (fun p => byt n f (sz.toNat - 1 - p)) (bytB n f sz) e w'

theorem GivesBytes.none {w w' : World} {n : Nat} {f : Nat → Int} {sz : Int} {e : Ending} {a : Option Addr} {cap : Nat} (hq : bytB n f sz = false) (he : e = .returned (.tuple #[.slice a 0 cap, .bool false])) (hb : Below w.heap.size w w') : GivesBytes w n f sz e w' := by
  unfold GivesBytes
  rw [hq]
  exact ⟨a, w.heap.size, cap, he, Nat.le_refl _, BOwn.nil _ _ _ _ _, hb⟩

/-- What the model's NatBytes has done, the places from k on being told. -/
structure Telling (n : Nat) (f : Nat → Int) (s : Nat) (w wr : World) (v : Value) (k : Nat) : Prop where
  own : wr.ownsRow w.heap.size 5 1 v (s - k) (byts (fun p => byt n f (s - 1 - p)) (s - k))
  below : Below w.heap.size w wr

theorem telling_step {n : Nat} {f : Nat → Int} {s : Nat} {w wr w1 : World} {v v' : Value} {k : Nat} {o : Obj} {x : Int} (h : Telling n f s w wr v (k + 1)) (hk : k < s) (hx : x = byt n f k)
    (hown : w1.ownsRow w.heap.size 5 1 v' (s - (k + 1) + 1) (byts (fun p => byt n f (s - 1 - p)) (s - (k + 1)) ++ [.int .u8 x])) (hg : (wr.alloc o).grownBy w1 v.ownBlock) : Telling n f s w w1 v' k := by
  refine ⟨?_, (h.below.alloc h.below.size _).grown hg (by have := h.below.size; simp; omega) (fun j hj => (h.own.lt j hj).1)⟩
  have e : s - k = s - (k + 1) + 1 := by omega
  rw [e, byts_succ]
  rw [hx] at hown
  rw [show s - 1 - (s - (k + 1)) = k by omega]
  exact hown

theorem bone_cell (x : Int) : ∀ u ∈ [Value.int .u8 x], u.oneCell' = true := by
  intro u hu
  simp at hu
  subst hu
  rfl

set_option maxHeartbeats 1600000 in
set_option maxRecDepth 100000 in
theorem specNatBytes_any (a : Option Addr) (b off n cap : Nat) (f : Nat → Int) (sz : Int) (w : World) (hs : Seg w a b off n f) (hn : n ≤ 1048576) :
    Calls Tryz.prog 145 #[.slice a n cap, .int .i64 sz] w fun e w' => GivesBytes w n f sz e w' := by
  cases hok : natOk n f with
  | false =>
    have Hv : Hid (bytB n f sz = false) := by show _ = _; simp [bytB, hok]
    go_enter Tryz.func145, Tryz.ntmps145
    go_wp2_with fail
    refine (specNatOk_any a b off n cap f _ hs hn).mono ?_
    rintro e w' ⟨rfl, hw⟩
    obtain rfl := hw.symm
    rw [hok]
    clear hok
    go_wp2
    go_ret2
    exact GivesBytes.none Hv.out rfl ((Below.refl _ _).alloc (Nat.le_refl _) _)
  | true =>
    have hd : Digs f n := ((natOk_iff n f).1 hok).1
    have ht := ok_top hok
    cases hin : (decide (0 ≤ sz) && decide (sz ≤ 128)) with
    | false =>
      have Hv : Hid (bytB n f sz = false) := by show _ = _; simp [bytB, hin]
      go_enter Tryz.func145, Tryz.ntmps145
      go_wp2_with fail
      refine (specNatOk_any a b off n cap f _ hs hn).mono ?_
      rintro e w' ⟨rfl, hw⟩
      obtain rfl := hw.symm
      rw [hok]
      clear hok
      go_wp2_with fail
      refine (l1In_any sz 0 128 _).mono ?_
      rintro e w' ⟨rfl, hw⟩
      obtain rfl := hw.symm
      rw [hin]
      clear hin
      go_wp2
      go_ret2
      exact GivesBytes.none Hv.out rfl ((Below.refl _ _).alloc (Nat.le_refl _) _)
    | true =>
      have hr : 0 ≤ sz ∧ sz ≤ 128 := by simpa using hin
      obtain ⟨s, rfl⟩ := Int.eq_ofNat_of_zero_le hr.1
      have hs128 : s ≤ 128 := by omega
      clear hr
      by_cases hfit : bitsOf n f ≤ 8 * (s : Int)
      · have Hv : Hid (bytB n f s = true) := by show _ = _; unfold bytB; rw [hok, hin]; simp [hfit]
        obtain ⟨i0, hi, hz0, hz1, hz2⟩ := info_parts Tryz.info5
        go_enter Tryz.func145, Tryz.ntmps145
        go_wp2_with fail
        refine (specNatOk_any a b off n cap f _ hs hn).mono ?_
        rintro e w' ⟨rfl, hw⟩
        obtain rfl := hw.symm
        rw [hok]
        clear hok
        go_wp2_with fail
        refine (l1In_any s 0 128 _).mono ?_
        rintro e w' ⟨rfl, hw⟩
        obtain rfl := hw.symm
        rw [hin]
        clear hin
        go_wp2_with fail
        refine (l1Bits_any a b off n cap f _ hs hn ht).mono ?_
        rintro e w' ⟨rfl, hw⟩
        obtain rfl := hw.symm
        go_wp2
        go_loopw [6, 7] (fun v i wr => ∃ k : Nat, k ≤ s ∧ i = .int .i64 ((k : Int) - 1) ∧ Telling n f s w wr v k) (fun _ i _ => (intOf i + 1).toNat)
        case atStart => exact ⟨s, Nat.le_refl _, by go_num, by rw [Nat.sub_self]; exact World.ownsRow_made w #[] 0 (Nat.le_refl _) (by simp) rfl, (Below.refl _ _).alloc (Nat.le_refl _) _⟩
        case round =>
          obtain ⟨k, hk, rfl, hT⟩ := hrel
          by_cases h0 : k = 0
          · subst h0
            obtain ⟨a', g', cap', hv', hg', hO⟩ := bown_of_owns hT.own
            have hb := hT.below
            rw [hv']
            clear hv' hT
            go_wp2
            go_ret2
            unfold GivesBytes
            rw [Hv.out]
            exact ⟨a', g', cap', rfl, hg', hO, hb⟩
          · obtain ⟨m, rfl⟩ : ∃ m, k = m + 1 := ⟨k - 1, by omega⟩
            have sA := hs.of_all hT.below
            obtain ⟨y0, y1⟩ := ext_bd hd (m / 2)
            rcases Nat.mod_two_eq_zero_or_one m with hm | hm
            · have hr : (m : Int) % 2 = 0 := by omega
              obtain ⟨j, hj⟩ : ∃ j : Nat, j = m / 2 := ⟨_, rfl⟩
              have hq : (m : Int) / 2 = (j : Int) := by omega
              rw [← hj] at y0 y1
              have Hb : Hid (ext n f j % 256 = byt n f m) := by show _ = _; simp [byt, hm, hj]
              clear hj
              go_wp2_with fail
              refine (l1Digit_any a b off n cap f j _ sA (by omega) (by omega)).mono ?_
              rintro e w' ⟨rfl, hw⟩
              obtain rfl := hw.symm
              generalize ext n f j = y at *
              go_wp2_with (at_builtin; (refine wpList_append_own _ rfl _ _ 53 rfl w.heap.size 5 i0 (.int .u8 0) 1 1 Tryz.underlying53 hi hz0 hz1 hz2 rfl (by decide) _ _ _ rfl (hT.own.alloc _) ⟨wr.heap.size, 0, none⟩ 1 1 [.int .u8 (y % 256)] rfl rfl (cell_one_new _ _ _) (bone_cell _) (by unfold maxLen; omega) (by omega) (by have := hT.below.size; simp; omega) ?_); intro v' w1 hown' hgrow hnil)
              have hN := telling_step hT (by omega) Hb.out hown' hgrow
              clear hown' hgrow hnil hT
              go_wp2
              go_roundw
              case rel => exact ⟨m, by omega, by go_num, hN⟩
              case measure => simp [intOf]
            · have hr : (m : Int) % 2 = 1 := by omega
              obtain ⟨j, hj⟩ : ∃ j : Nat, j = m / 2 := ⟨_, rfl⟩
              have hq : (m : Int) / 2 = (j : Int) := by omega
              rw [← hj] at y0 y1
              have Hb : Hid (ext n f j / 256 = byt n f m) := by show _ = _; simp [byt, hm, hj]
              clear hj
              go_wp2_with fail
              refine (l1Digit_any a b off n cap f j _ sA (by omega) (by omega)).mono ?_
              rintro e w' ⟨rfl, hw⟩
              obtain rfl := hw.symm
              generalize ext n f j = y at *
              go_wp2_with (at_builtin; (refine wpList_append_own _ rfl _ _ 53 rfl w.heap.size 5 i0 (.int .u8 0) 1 1 Tryz.underlying53 hi hz0 hz1 hz2 rfl (by decide) _ _ _ rfl (hT.own.alloc _) ⟨wr.heap.size, 0, none⟩ 1 1 [.int .u8 (y / 256)] rfl rfl (cell_one_new _ _ _) (bone_cell _) (by unfold maxLen; omega) (by omega) (by have := hT.below.size; simp; omega) ?_); intro v' w1 hown' hgrow hnil)
              have hN := telling_step hT (by omega) Hb.out hown' hgrow
              clear hown' hgrow hnil hT
              go_wp2
              go_roundw
              case rel => exact ⟨m, by omega, by go_num, hN⟩
              case measure => simp [intOf]
      · have Hv : Hid (bytB n f s = false) := by show _ = _; simp [bytB, hfit]
        have hgt : 8 * (s : Int) < bitsOf n f := by omega
        go_enter Tryz.func145, Tryz.ntmps145
        go_wp2_with fail
        refine (specNatOk_any a b off n cap f _ hs hn).mono ?_
        rintro e w' ⟨rfl, hw⟩
        obtain rfl := hw.symm
        rw [hok]
        clear hok
        go_wp2_with fail
        refine (l1In_any s 0 128 _).mono ?_
        rintro e w' ⟨rfl, hw⟩
        obtain rfl := hw.symm
        rw [hin]
        clear hin
        go_wp2_with fail
        refine (l1Bits_any a b off n cap f _ hs hn ht).mono ?_
        rintro e w' ⟨rfl, hw⟩
        obtain rfl := hw.symm
        go_wp2
        go_ret2
        exact GivesBytes.none Hv.out rfl ((Below.refl _ _).alloc (Nat.le_refl _) _)
end

section
set_option linter.unusedVariables false

def consF (x : Int) (f : Nat → Int) : Nat → Int := fun i => if i = 0 then x else f (i - 1)

theorem consF_map (x : Int) (f : Nat → Int) (m : Nat) : (List.range (m + 1)).map (consF x f) = x :: (List.range m).map f := by
  rw [List.range_succ_eq_map, List.map_cons, List.map_map]
  congr 1

theorem byts_cons (x : Int) (f : Nat → Int) (m : Nat) : byts (fun _ => x) 1 ++ byts f m = byts (consF x f) (m + 1) := by
  unfold byts
  show Value.int .u8 x :: (List.range m).map (fun i => Value.int .u8 (f i)) = _
  rw [List.range_succ_eq_map, List.map_cons, List.map_map]
  rfl

theorem bl8 : ∀ x : Fin 256, (Lib.bitLen x.val = 8 ↔ 128 ≤ x.val) ∧ Lib.bitLen x.val ≤ 8 ∧ (x.val ≠ 0 → 1 ≤ Lib.bitLen x.val) := by decide +kernel

theorem bl8' (d : Int) (h0 : 0 < d) (h1 : d ≤ 255) : ((Lib.bitLen d.toNat : Int) = 8 ↔ 128 ≤ d) ∧ (Lib.bitLen d.toNat : Int) ≤ 8 ∧ 1 ≤ (Lib.bitLen d.toNat : Int) := by
  have := bl8 ⟨d.toNat, by omega⟩
  obtain ⟨a, b, c⟩ := this
  simp only at a b c
  have := c (by omega)
  omega

/-- The size that the program asks for. -/
def nsz (n : Nat) (f : Nat → Int) : Nat := ((bitsOf n f + 8) / 8).toNat

def msz (n : Nat) (f : Nat → Int) : Nat := ((bitsOf n f + 7) / 8).toNat

def natL (n : Nat) (f : Nat → Int) : List Int := (List.range (nsz n f)).map (fun p => byt n f (nsz n f - 1 - p))

def natC (n : Nat) (f : Nat → Int) : Ic := ⟨2, 0, natL n f⟩

theorem nat_split {n : Nat} {f : Nat → Int} (hok : natOk n f = true) (hn : 0 < n) : 0 < msz n f ∧ 0 ≤ byt n f (msz n f - 1) ∧ byt n f (msz n f - 1) ≤ 255 ∧
    ((127 < byt n f (msz n f - 1) ∧ nsz n f = msz n f + 1 ∧ byt n f (msz n f) = 0) ∨ (byt n f (msz n f - 1) ≤ 127 ∧ nsz n f = msz n f)) := by
  obtain ⟨hd, -, hz⟩ := (natOk_iff n f).1 hok
  obtain ⟨k, rfl⟩ : ∃ k, n = k + 1 := ⟨n - 1, by omega⟩
  have hk := hd k (by omega)
  have hz' : f k ≠ 0 := by
    rcases hz with h | h
    · omega
    · exact h
  have hb : bitsOf (k + 1) f = 16 * (k : Int) + Lib.bitLen (f k).toNat := by
    unfold bitsOf
    rw [if_neg (by omega)]
    simp
  have he : ext (k + 1) f k = f k := ext_in (by omega)
  have he1 : ext (k + 1) f (k + 1) = 0 := ext_out (Nat.le_refl _)
  have b0 : byt (k + 1) f (2 * k) = f k % 256 := by unfold byt; rw [if_pos (by omega), show 2 * k / 2 = k by omega, he]
  have b1 : byt (k + 1) f (2 * k + 1) = f k / 256 := by unfold byt; rw [if_neg (by omega), show (2 * k + 1) / 2 = k by omega, he]
  have b2 : byt (k + 1) f (2 * k + 2) = 0 := by unfold byt; rw [if_pos (by omega), show (2 * k + 2) / 2 = k + 1 by omega, he1]; rfl
  by_cases c : f k < 256
  · obtain ⟨x1, x2, x3⟩ := bl8' (f k) (by omega) (by omega)
    have hm : msz (k + 1) f = 2 * k + 1 := by unfold msz; rw [hb]; omega
    rw [hm, show 2 * k + 1 - 1 = 2 * k by omega, b0]
    refine ⟨by omega, by omega, by omega, ?_⟩
    by_cases c2 : 128 ≤ f k
    · left
      have := x1.2 c2
      refine ⟨by omega, ?_, ?_⟩
      · unfold nsz; rw [hb]; omega
      · rw [b1]; omega
    · right
      have : ¬ (Lib.bitLen (f k).toNat : Int) = 8 := fun h => c2 (x1.1 h)
      refine ⟨by omega, ?_⟩
      unfold nsz; rw [hb]; omega
  · obtain ⟨x1, x2, x3⟩ := bl8' (f k / 256) (by omega) (by omega)
    have h8 : (Lib.bitLen (f k).toNat : Int) = 8 + Lib.bitLen (f k / 256).toNat := by
      rw [Lib.bitLen_shift8 (f k).toNat (by omega) (by omega), show (f k / 256).toNat = (f k).toNat / 256 by omega]
      omega
    have hm : msz (k + 1) f = 2 * k + 2 := by unfold msz; rw [hb]; omega
    rw [hm, show 2 * k + 2 - 1 = 2 * k + 1 by omega, b1]
    refine ⟨by omega, by omega, by omega, ?_⟩
    by_cases c2 : 128 ≤ f k / 256
    · left
      have := x1.2 c2
      refine ⟨by omega, ?_, b2⟩
      unfold nsz; rw [hb]; omega
    · right
      have : ¬ (Lib.bitLen (f k / 256).toNat : Int) = 8 := fun h => c2 (x1.1 h)
      refine ⟨by omega, ?_⟩
      unfold nsz; rw [hb]; omega

/-- What the model tells is what the program tells. -/
theorem natL_long {n : Nat} {f : Nat → Int} (h : nsz n f = msz n f + 1) (h0 : byt n f (msz n f) = 0) : 0 :: (List.range (msz n f)).map (fun p => byt n f (msz n f - 1 - p)) = natL n f := by
  unfold natL
  rw [h, List.range_succ_eq_map, List.map_cons, List.map_map, show msz n f + 1 - 1 - 0 = msz n f by omega, h0]
  congr 1
  apply List.map_congr_left
  intro p hp
  show byt n f _ = byt n f _
  congr 1
  simp only [Nat.succ_eq_add_one]
  omega

theorem natL_same {n : Nat} {f : Nat → Int} (h : nsz n f = msz n f) : (List.range (msz n f)).map (fun p => byt n f (msz n f - 1 - p)) = natL n f := by
  unfold natL
  rw [h]
end

section
set_option linter.unusedVariables false
set_option linter.unusedSimpArgs false

open Go.RowKit

theorem map_len {α β : Type} {f : α → β} {L : List α} {M : List β} (h : L.map f = M) : L.length = M.length := by rw [← h, List.length_map]

set_option maxHeartbeats 1600000 in
set_option maxRecDepth 100000 in
theorem l10Ints_any (a : Option Addr) (b off n cap : Nat) (f : Nat → Int) (w : World) (hs : Seg w a b off n f) (hn : n ≤ 1000) (hf : ∀ i, i < n → -9223372036854775808 ≤ f i ∧ f i ≤ 9223372036854775807) :
    Calls Tryz.prog 95 #[.slice a n cap] w fun e w' => GivesIs w.heap.size w ((List.range n).map (fun i => intC (f i))) e w' := by
  have HI : Hid (∀ i, i < n → ∀ W, Calls Tryz.prog 92 #[.int .i64 (f i)] W fun e w' => GivesIs W.heap.size W [intC (f i)] e w') := fun i hi W => l10Int_any (f i) W (hf i hi).1 (hf i hi).2
  have H0 := hide (LAcc.nil w w.heap.size (Nat.le_refl _))
  have Hs := hide hs
  clear hs hf
  go_enter Tryz.func95, Tryz.ntmps95
  go_wp2
  go_loopw [3, 4] (fun v k wr => ∃ (j : Nat) (L : List It), j ≤ n ∧ k = .int .i64 (j : Int) ∧ LAcc w.heap.size wr v L ∧ L.map ct = (List.range j).map (fun i => intC (f i)) ∧ Ext w wr) (fun _ k _ => n - (intOf k).toNat)
  case atStart => exact ⟨0, [], Nat.zero_le _, rfl, H0.out, rfl, Ext.alloc _ _⟩
  case round =>
    clear H0
    obtain ⟨j, L, hj, rfl, hA, hC, hE⟩ := hrel
    have hll : L.length = j := by have := map_len hC; simpa using this
    by_cases hlt : j < n
    · have hjk : (j : Int) < (n : Int) := by omega
      obtain rfl := Hs.out.at' (by omega)
      have cj := (Hs.out.of_all hE).cell j hlt
      have HIj := hide (HI.out j hlt)
      have HN : Hid (((List.range j).map (fun i => intC (f i))) ++ [intC (f j)] = (List.range (j + 1)).map (fun i => intC (f i))) := by show _ = _; rw [List.range_succ, List.map_append]; rfl
      have Hll := hide hll
      have HA := hide hA
      have HC := hide hC
      have HE := hide hE
      clear hA hC hE hll HI
      generalize f j = d at *
      have W1 : Hid (wrap64 ((j : Int) + 1) = (j : Int) + 1) := by show _ = _; unfold wrap64; omega
      go_wp2_with (first | (go_at_call 92; refine (HIj.out _).mono ?_; rintro e w1 ⟨v1, M, rfl, hM, hMc, hE1⟩; have HM := hide hM; have HMc := hide hMc; have HE1 := hide hE1; clear hM hMc hE1) | (at_builtin; refine stop_app rfl ?_))
      refine hide ?_
      have hlt := HA.out.later HE1.out HM.out.bods (Below.size HE.out)
      refine wpList_appL rfl _ _ rfl w.heap.size wr.heap.size wr _ _ L M rfl HA.out HE1.out rfl HM.out.row hlt.1 hlt.2 (by have := Hll.out; have := map_len HMc.out; simp at this; omega) (Below.size HE.out) ?_
      intro v' w2 hA2 hB2
      have HA2 := hide hA2
      have HE2 : Hid (Ext w w2) := hide (Below.trans (Ext.trans HE.out HE1.out) (hB2 _ (fun k hk => (HA.out.row.lt k hk).1) (Nat.le_trans (Below.size HE.out) (Below.size HE1.out))))
      clear hA2 hB2 hlt cj
      go_wp2
      refine ⟨⟨j + 1, L ++ M, by omega, by (try rw [W1.out]); congr 1, HA2.out, by rw [List.map_append, HC.out, HMc.out]; exact HN.out, HE2.out⟩, ?_⟩
      try rw [W1.out]
      show n - ((j : Int) + 1).toNat < n - ((j : Int)).toNat
      omega
    · obtain rfl : j = n := by omega
      have hjk : ¬ (j : Int) < (j : Int) := by omega
      have HA := hide hA
      have HC := hide hC
      have HE := hide hE
      clear hA hC hE hll HI
      go_wp2
      go_ret
      exact ⟨_, L, rfl, HA.out, HC.out, HE.out⟩

set_option maxHeartbeats 1600000 in
set_option maxRecDepth 100000 in
theorem l10Nat_any (a : Option Addr) (b off n cap : Nat) (f : Nat → Int) (w : World) (hs : Seg w a b off n f) (hok : natOk n f = true) (h0 : 0 < n) (hb : bitsOf n f ≤ 512) :
    Calls Tryz.prog 93 #[.slice a n cap] w fun e w' => GivesIs w.heap.size w [natC n f] e w' := by
  have hn : n ≤ 64 := ((natOk_iff n f).1 hok).2.1
  have hd := ((natOk_iff n f).1 hok).1 (n - 1) (by omega)
  have hbp : 0 ≤ bitsOf n f := by unfold bitsOf; split <;> omega
  have HB := hide (l1Bits_any a b off n cap f w hs (by omega) (.inr hd))
  have hm : ((bitsOf n f + 7) / 8).toNat = msz n f := rfl
  have hbt : bytB n f ((bitsOf n f + 7) / 8) = true := by unfold bytB; rw [hok]; simp; omega
  have HNb : Hid (∀ W, Ext w W → Calls Tryz.prog 145 #[.slice a n cap, .int .i64 ((bitsOf n f + 7) / 8)] W fun e w' => GivesB W (msz n f) (fun p => byt n f (msz n f - 1 - p)) true e w') := fun W h => by
    have := specNatBytes_any a b off n cap f ((bitsOf n f + 7) / 8) W (hs.of_all h) (by omega)
    unfold GivesBytes at this
    rw [hbt, if_pos rfl, hm] at this
    exact this
  obtain ⟨s1, s2, s3, s4⟩ := nat_split hok h0
  have HS4 : Hid ((127 < byt n f (msz n f - 1) ∧ 0 :: (List.range (msz n f)).map (fun p => byt n f (msz n f - 1 - p)) = natL n f) ∨ (byt n f (msz n f - 1) ≤ 127 ∧ (List.range (msz n f)).map (fun p => byt n f (msz n f - 1 - p)) = natL n f)) := by
    rcases s4 with ⟨x1, x2, x3⟩ | ⟨x1, x2⟩
    · exact .inl ⟨x1, natL_long x2 x3⟩
    · exact .inr ⟨x1, natL_same x2⟩
  have HNC : Hid (natC n f = ⟨2, 0, natL n f⟩) := rfl
  have HMs : Hid (msz n f ≤ 64) := by show _ ≤ _; unfold msz; omega
  have w1 : wrap64 (bitsOf n f + 7) = bitsOf n f + 7 := by unfold wrap64; omega
  have m1 : Int.tdiv (bitsOf n f + 7) 8 = (bitsOf n f + 7) / 8 := by rw [Int.tdiv_eq_ediv_of_nonneg (by omega)]
  have w2 : wrap64 ((bitsOf n f + 7) / 8) = (bitsOf n f + 7) / 8 := by unfold wrap64; omega
  clear hm hbt hs hd s4 hbp hb
  have HF0 : Hid (byt n f (msz n f - 1) = (fun p => byt n f (msz n f - 1 - p)) 0) := rfl
  generalize natC n f = C at *
  generalize natL n f = NL at *
  generalize (bitsOf n f + 7) / 8 = sz at *
  generalize bitsOf n f = Bq at *
  generalize byt n f (msz n f - 1) = top at *
  generalize (fun p => byt n f (msz n f - 1 - p)) = F at *
  generalize msz n f = M at *
  have hM0 : ¬ ((M : Int) = 0) := by omega
  have hMp : (0 : Int) < (M : Int) := by omega
  have HS1 := hide s1
  have hMz : ((M : Int) == 0) = false := by simp; omega
  rcases HS4.out with ⟨hc, hl⟩ | ⟨hc, hl⟩
  · have HL := hide hl
    have hc2 : decide (127 < top) = true := by simp; omega
    clear hl HS4 hc
    go_enter Tryz.func93, Tryz.ntmps93
    go_wp2_with (first | (go_at_call 87; refine HB.out.mono ?_; rintro e w3 ⟨rfl, hw⟩; obtain rfl := hw.symm) | (go_at_call 145; refine (HNb.out _ (Ext.refl _)).mono ?_; rintro e w3 ⟨ya, yg, yc, rfl, hyg, hyO, hyE⟩; obtain rfl := hyO.at' HS1.out; have HO := hide hyO; have HE := hide hyE; have c0 := hyO.cell 0 HS1.out; rw [← HF0.out] at c0; clear hyO hyE) | (at_builtin; refine stop_app rfl ?_))
    refine hide ?_
    refine wpList_append_bs rfl _ _ rfl w.heap.size _ 1 (byts (fun _ => 0) 1) rfl (ownsRow_low (owns_one8 w3 0) (Below.size HE.out)) _ yg 0 M yc F rfl (HO.out.toBSeg.of_all (Ext.alloc _ _)) (by have := HMs.out; omega) (by have := Below.size HE.out; simp; omega) ?_
    intro v' w4 h1 h2
    rw [byts_cons, Nat.add_comm] at h1
    obtain ⟨xa, xg, xc, rfl, hxg, -, -, hxB⟩ := owns_seg h1
    have HX := hide hxB
    have HE4 : Hid (Ext w w4) := hide (Below.trans (Ext.trans HE.out (Ext.alloc _ _)) h2)
    have HI := hide (l10Item_any 2 xa xg 0 (M + 1) xc (consF 0 F) w.heap.size w4 hxB hxg (Below.size HE4.out))
    clear hxB h1 h2 HO
    rw [consF_map] at HI
    go_wp2_with (go_at_call 69; refine HI.out.mono ?_; rintro e w5 ⟨v5, L5, rfl, h5, h5c, h5E⟩; have H5 := hide h5; have H5c := hide h5c; have H5E := hide h5E; clear h5 h5c h5E)
    go_ret
    exact ⟨_, _, rfl, H5.out, by rw [H5c.out, HNC.out, HL.out], Ext.trans HE4.out H5E.out⟩
  · have HL := hide hl
    have hc2 : decide (127 < top) = false := by simp; omega
    clear hl HS4 hc
    go_enter Tryz.func93, Tryz.ntmps93
    go_wp2_with (first | (go_at_call 87; refine HB.out.mono ?_; rintro e w3 ⟨rfl, hw⟩; obtain rfl := hw.symm) | (go_at_call 145; refine (HNb.out _ (Ext.refl _)).mono ?_; rintro e w3 ⟨ya, yg, yc, rfl, hyg, hyO, hyE⟩; obtain rfl := hyO.at' HS1.out; have HO := hide hyO; have HE := hide hyE; have c0 := hyO.cell 0 HS1.out; rw [← HF0.out] at c0; have HI := hide (l10Item_any 2 (some ⟨yg, 0, none⟩) yg 0 M yc F w.heap.size w3 hyO hyg (Below.size hyE)); clear hyO hyE) | (go_at_call 69; refine HI.out.mono ?_; rintro e w5 ⟨v5, L5, rfl, h5, h5c, h5E⟩; have H5 := hide h5; have H5c := hide h5c; have H5E := hide h5E; clear h5 h5c h5E))
    go_ret
    exact ⟨_, _, rfl, H5.out, by rw [H5c.out, HNC.out, HL.out], Ext.trans HE.out H5E.out⟩
end

end Go.Proofs.YtnnandjphlajnaaGreatDoor
