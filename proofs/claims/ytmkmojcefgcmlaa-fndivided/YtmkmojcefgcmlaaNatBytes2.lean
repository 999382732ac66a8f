/- Walk: the program's NatBytes. -/
import Derived.Test.YtmkmojcefgcmlaaNatBytes
namespace Go.Proofs.Ytmkmojcefgcmlaa
set_option linter.unusedVariables false
open Go.RowKit

/-- What lies there when k places are told. -/
def told (n : Nat) (f : Nat → Int) (s k : Nat) (p : Nat) : Int := if s - 1 - p < k then byt n f (s - 1 - p) else 0

theorem told_all {n : Nat} {f : Nat → Int} {s k : Nat} (h : s ≤ k ∨ n ≤ k / 2) (p : Nat) (hp : p < s) : told n f s k p = byt n f (s - 1 - p) := by
  unfold told
  by_cases e : s - 1 - p < k
  · rw [if_pos e]
  · rw [if_neg e]
    have : ext n f ((s - 1 - p) / 2) = 0 := ext_out (by omega)
    unfold byt
    rw [this]
    simp

theorem told_set {n : Nat} {f : Nat → Int} {s k q : Nat} {x : Int} (hq : q = s - 1 - k) (hk : k < s) (hx : x = byt n f k) (p : Nat) (hp : p < s) : (if p = q then x else told n f s k p) = told n f s (k + 1) p := by
  unfold told
  by_cases e : p = q
  · rw [if_pos e, if_pos (by omega), hx, show s - 1 - p = k by omega]
  · rw [if_neg e]
    by_cases h : s - 1 - p < k
    · rw [if_pos h, if_pos (by omega)]
    · rw [if_neg h, if_neg (by omega)]

theorem BOwn.set0 {w : World} {a : Option Addr} {g n : Nat} {f f' : Nat → Int} (h : BOwn w a g 0 n f) {k : Nat} (hk : k < n) (x : Int) (e : ∀ p, p < n → (if p = k then x else f p) = f' p) :
    BOwn (w.setCell ⟨g, k, none⟩ (.int .u8 x)) a g 0 n f' := by
  have := (h.set hk x).congr e
  rw [Nat.zero_add] at this
  exact this

theorem BOwn.cell0 {w : World} {a : Option Addr} {g n : Nat} {f : Nat → Int} (h : BOwn w a g 0 n f) {k : Nat} (hk : k < n) : w.cell? ⟨g, k, none⟩ = some (.int .u8 (f k)) ∧ w.frozen? ⟨g, k, none⟩ = false := by
  have h1 := h.cell k hk
  have h2 := h.free k hk
  rw [Nat.zero_add] at h1 h2
  exact ⟨h1, h2⟩

set_option maxHeartbeats 1600000 in
theorem implNatBytes_any (a : Option Addr) (b off n cap : Nat) (f : Nat → Int) (sz : Int) (w : World) (hs : Seg w a b off n f) (hn : n ≤ 1048576) :
    Calls Try.prog 23 #[.slice a n cap, .int .i64 sz] w fun e w' => GivesBytes w n f sz e w' := by
  cases hok : natOk n f with
  | false =>
    have Hv : Hid (bytB n f sz = false) := by show _ = _; simp [bytB, hok]
    go_enter Try.func23, Try.ntmps23
    go_wp2_with fail
    refine (implNatOk_any a b off n cap f _ hs hn).mono ?_
    rintro e w' ⟨rfl, hw⟩
    obtain rfl := hw.symm
    rw [hok]
    clear hok
    go_wp2
    go_ret2
    exact GivesBytes.none Hv.out rfl ((Below.refl _ _).alloc (Nat.le_refl _) _)
  | true =>
    have hd : Digs f n := ((natOk_iff n f).1 hok).1
    have ht := ok_top hok
    by_cases hneg : sz < 0
    · have Hv : Hid (bytB n f sz = false) := by show _ = _; simp [bytB, show ¬ 0 ≤ sz by omega]
      go_enter Try.func23, Try.ntmps23
      go_wp2_with fail
      refine (implNatOk_any a b off n cap f _ hs hn).mono ?_
      rintro e w' ⟨rfl, hw⟩
      obtain rfl := hw.symm
      rw [hok]
      clear hok
      go_wp2
      go_ret2
      exact GivesBytes.none Hv.out rfl ((Below.refl _ _).alloc (Nat.le_refl _) _)
    · by_cases hbig : 128 < sz
      · have Hv : Hid (bytB n f sz = false) := by show _ = _; simp [bytB, show ¬ sz ≤ 128 by omega]
        go_enter Try.func23, Try.ntmps23
        go_wp2_with fail
        refine (implNatOk_any a b off n cap f _ hs hn).mono ?_
        rintro e w' ⟨rfl, hw⟩
        obtain rfl := hw.symm
        rw [hok]
        clear hok
        go_wp2
        go_ret2
        exact GivesBytes.none Hv.out rfl ((Below.refl _ _).alloc (Nat.le_refl _) _)
      · obtain ⟨s, rfl⟩ := Int.eq_ofNat_of_zero_le (show 0 ≤ sz by omega)
        have hs128 : s ≤ 128 := by omega
        clear hneg hbig
        have hin1 : ¬ (s : Int) < 0 := by omega
        have hin2 : ¬ (128 : Int) < (s : Int) := by omega
        by_cases hfit : bitsOf n f ≤ 8 * (s : Int)
        · have Hv : Hid (bytB n f s = true) := by show _ = _; unfold bytB; rw [hok]; simp [hfit]; omega
          have hmk := run_make_row' (P := Try.prog) 22 5 (.int .u8 0) 1 Try.underlying22 Try.info5 rfl .i64 .i64 s (by omega) (by omega)
          have hngt : ¬ 8 * (s : Int) < bitsOf n f := by omega
          go_enter Try.func23, Try.ntmps23
          go_wp2_with fail
          refine (implNatOk_any a b off n cap f _ hs hn).mono ?_
          rintro e w' ⟨rfl, hw⟩
          obtain rfl := hw.symm
          rw [hok]
          clear hok
          go_wp2_with fail
          refine (digitsBits_any a b off n cap f _ hs hn ht).mono ?_
          rintro e w' ⟨rfl, hw⟩
          obtain rfl := hw.symm
          go_wp2
          clear hmk
          go_loopw [7] (fun i wr => ∃ k : Nat, k ≤ s ∧ i = .int .i64 k ∧ BOwn wr (some ⟨w.heap.size, 0, none⟩) w.heap.size 0 s (told n f s k) ∧ Below w.heap.size w wr) (fun i _ => s - (intOf i).toNat)
          case atStart =>
            refine ⟨0, by omega, rfl, ?_, (Below.refl _ _).alloc (Nat.le_refl _) _⟩
            exact BOwn.of_row ((World.rowIs_made w _ s 5).congr (fun j _ => by simp [told])) (Nat.le_refl _)
          case round =>
            obtain ⟨k, hk, rfl, hO, hB⟩ := hrel
            by_cases hgo : k < s ∧ k / 2 < n
            · obtain ⟨h1, h2⟩ := hgo
              obtain rfl := hs.at' (by omega)
              obtain ⟨j, hj⟩ : ∃ j : Nat, j = k / 2 := ⟨_, rfl⟩
              obtain ⟨p, hp⟩ : ∃ p : Nat, p = s - 1 - k := ⟨_, rfl⟩
              have hjn : j < n := by omega
              have hq : (k : Int) / 2 = (j : Int) := by omega
              have hpi : (s : Int) - 1 - (k : Int) = (p : Int) := by omega
              have hps : p < s := by omega
              have hps' : (p : Int) < (s : Int) := by omega
              have hjn' : (j : Int) < (n : Int) := by omega
              have hc := (hs.of_all hB).cell j hjn
              obtain ⟨y0, y1⟩ := hd j hjn
              have Hx : Hid (ext n f (k / 2) = f j) := by show _ = _; rw [← hj]; exact ext_in hjn
              obtain ⟨hc1, hz1⟩ := hO.cell0 hps
              rcases Nat.mod_two_eq_zero_or_one k with hm | hm
              · have hr : (k : Int) % 2 = 0 := by omega
                have hO' := hO.set0 hps (f j % 256) (told_set hp h1 (by simp [byt, hm, Hx.out]))
                have hB' := hB.setCell (p := ⟨w.heap.size, p, none⟩) (Nat.le_refl _) (.int .u8 (f j % 256))
                clear hO hB Hx hj hp
                go_wp2
                go_roundw
                case rel => exact ⟨k + 1, by omega, by go_num, hO', hB'⟩
                case measure => simp [intOf]; omega
              · have hr : (k : Int) % 2 = 1 := by omega
                have hO' := hO.set0 hps (f j / 256) (told_set hp h1 (by simp [byt, hm, Hx.out]))
                have hB' := hB.setCell (p := ⟨w.heap.size, p, none⟩) (Nat.le_refl _) (.int .u8 (f j / 256))
                clear hO hB Hx hj hp
                go_wp2
                go_roundw
                case rel => exact ⟨k + 1, by omega, by go_num, hO', hB'⟩
                case measure => simp [intOf]; omega
            · have hall := hO.congr (fun p hp => told_all (k := k) (by omega) p hp)
              clear hO
              by_cases h1 : k < s
              · have h2 : ¬ k / 2 < n := by omega
                obtain ⟨j, hj⟩ : ∃ j : Nat, j = k / 2 := ⟨_, rfl⟩
                have hq : (k : Int) / 2 = (j : Int) := by omega
                have h3 : ¬ (j : Int) < (n : Int) := by omega
                clear hj hgo
                go_wp2
                go_ret2
                unfold GivesBytes
                rw [Hv.out]
                exact ⟨_, w.heap.size, s, rfl, Nat.le_refl _, hall, hB⟩
              · clear hgo
                go_wp2
                go_ret2
                unfold GivesBytes
                rw [Hv.out]
                exact ⟨_, w.heap.size, s, rfl, Nat.le_refl _, hall, hB⟩
        · have Hv : Hid (bytB n f s = false) := by show _ = _; simp [bytB, hfit]
          have hgt : 8 * (s : Int) < bitsOf n f := by omega
          go_enter Try.func23, Try.ntmps23
          go_wp2_with fail
          refine (implNatOk_any a b off n cap f _ hs hn).mono ?_
          rintro e w' ⟨rfl, hw⟩
          obtain rfl := hw.symm
          rw [hok]
          clear hok
          go_wp2_with fail
          refine (digitsBits_any a b off n cap f _ hs hn ht).mono ?_
          rintro e w' ⟨rfl, hw⟩
          obtain rfl := hw.symm
          go_wp2
          go_ret2
          exact GivesBytes.none Hv.out rfl ((Below.refl _ _).alloc (Nat.le_refl _) _)

end Go.Proofs.Ytmkmojcefgcmlaa
