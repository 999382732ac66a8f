/- Walk: the program's takeMost: how often a divisor goes into a number one digit longer, and what is left, in place. -/
import Derived.Test.YtmkmojcefgcmlaaDoorTakes
namespace Go.Proofs.YtmkmojcefgcmlaaDoor
set_option linter.unusedVariables false
open Go.RowKit

theorem val_top3 (f : Nat → Int) (m : Nat) : val f (m + 2 + 1) = top3 f (m + 2) * pw m + val f m := by
  simp only [val, pw, top3, show m + 2 - 1 = m + 1 from rfl, show m + 2 - 2 = m from rfl]
  grind

theorem val_top2 (h : Nat → Int) (m : Nat) : val h (m + 2) = top2 h (m + 2) * pw m + val h m := by
  simp only [val, pw, top2, show m + 2 - 1 = m + 1 from rfl, show m + 2 - 2 = m from rfl]
  grind

theorem guess_val {f h : Nat → Int} {n : Nat} (hn : 2 ≤ n) (hf : Digs f (n + 1)) (hh : Canon n h) (hlt : val f (n + 1) < 65536 * val h n) :
    top3 f n / top2 h n = val f (n + 1) / val h n ∨ top3 f n / top2 h n = val f (n + 1) / val h n + 1 := by
  obtain ⟨m, rfl⟩ : ∃ m, n = m + 2 := ⟨n - 2, by omega⟩
  rw [val_top3, val_top2] at *
  have f0 := hf m (by omega)
  have f1 := hf (m + 1) (by omega)
  have f2 := hf (m + 2) (by omega)
  have h0 := hh.digs m (by omega)
  have h1 := hh.digs (m + 1) (by omega)
  have hl : h (m + 1) ≠ 0 := by simpa using hh.last
  have bf := val_bd (hf.mono (show m ≤ m + 2 + 1 by omega))
  have bh := val_bd (hh.digs.mono (show m ≤ m + 2 by omega))
  exact guess_ok (pw_pos m) bf.1 bf.2 bh.1 bh.2 (by simp only [top2, show m + 2 - 1 = m + 1 from rfl, show m + 2 - 2 = m from rfl]; omega) (by simp only [top3, show m + 2 - 1 = m + 1 from rfl, show m + 2 - 2 = m from rfl]; omega) hlt

theorem canon_pos {h : Nat → Int} {n : Nat} (hh : Canon n h) (hn : 0 < n) : 0 < val h n := by
  obtain ⟨m, rfl⟩ : ∃ m, n = m + 1 := ⟨n - 1, by omega⟩
  have := hh.low
  have := pw_pos m
  omega

theorem quo_facts {va vb : Int} (hb : 0 < vb) (ha : 0 ≤ va) (hlt : va < 65536 * vb) : 0 ≤ va / vb ∧ va / vb ≤ 65535 ∧ va / vb * vb ≤ va ∧ va < va / vb * vb + vb ∧ va % vb = va - va / vb * vb := by
  have q0 := Int.ediv_nonneg ha (Int.le_of_lt hb)
  have q1 := Int.ediv_lt_of_lt_mul hb hlt
  have q2 := Int.mul_ediv_self_le (x := va) (k := vb) (by omega)
  have q3 := Int.lt_mul_ediv_self_add (x := va) (k := vb) hb
  have q4 := Int.emod_def va vb
  rw [Int.mul_comm] at q2 q3 q4
  exact ⟨q0, by omega, q2, q3, q4⟩

/-- Out of a is taken b as often as it goes in. -/
def GivesMost (g off n : Nat) (a : Option Addr) (va vb : Int) (w : World) (e : Ending) (w' : World) : Prop :=
  ∃ f', e = .returned (.int .i64 (va / vb)) ∧ Own w' a g off (n + 1) f' ∧ Digs f' (n + 1) ∧ val f' (n + 1) = va % vb ∧ Spot g off (n + 1) w w'

/-- The guess was right. -/
theorem most_right {f h : Nat → Int} {n : Nat} {Q : Int} (hf : Digs f (n + 1)) (hh : Digs h n) (hQ : 0 ≤ Q) (h1 : Q * val h n ≤ val f (n + 1)) :
    subL (ext (n + 1) f) (ext n h) Q (n + 1) = 0 ∧ val (subD (ext (n + 1) f) (ext n h) Q) (n + 1) = val f (n + 1) - Q * val h n := by
  have := sub_done (n := n + 1) hQ (ext_bd hf) (ext_bd hh) (by rw [val_ext (Nat.le_succ n), val_ext (Nat.le_refl _)]; exact h1)
  rw [val_ext (Nat.le_succ n), val_ext (Nat.le_refl _)] at this
  exact this

/-- The guess was one too high: what is lacking is there, and adding once mends it. -/
theorem most_high {f h : Nat → Int} {n : Nat} {Q : Int} (hf : Digs f (n + 1)) (hh : Digs h n) (hQ : 0 ≤ Q) (h1 : Q * val h n ≤ val f (n + 1)) (h2 : val f (n + 1) < Q * val h n + val h n) :
    0 < subL (ext (n + 1) f) (ext n h) (Q + 1) (n + 1) ∧
    val (addD (ext (n + 1) (subD (ext (n + 1) f) (ext n h) (Q + 1))) (ext n h)) (n + 1) = val f (n + 1) - Q * val h n := by
  have i := sub_inv (ext (n + 1) f) (ext n h) (Q + 1) (n + 1)
  rw [val_ext (Nat.le_succ n), val_ext (Nat.le_refl _)] at i
  have bd := val_bd (f := subD (ext (n + 1) f) (ext n h) (Q + 1)) (n := n + 1) (fun i _ => subD_bd _ _ _ i)
  have l := subL_bd (t := Q + 1) (by omega) (ext_bd hf) (ext_bd hh) (n + 1)
  have e1 : (Q + 1) * val h n = Q * val h n + val h n := by rw [Int.add_mul, Int.one_mul]
  have hL : 0 < subL (ext (n + 1) f) (ext n h) (Q + 1) (n + 1) := by
    by_cases e : subL (ext (n + 1) f) (ext n h) (Q + 1) (n + 1) = 0
    · rw [e] at i; omega
    · omega
  refine ⟨hL, ?_⟩
  have s := add_val (n := n + 1) (n2 := n) (f := subD (ext (n + 1) f) (ext n h) (Q + 1)) (h := h) (n + 1) (Nat.le_refl _) (Nat.le_succ n)
  have bs := val_bd (f := addD (ext (n + 1) (subD (ext (n + 1) f) (ext n h) (Q + 1))) (ext n h)) (n := n + 1) (fun i _ => addD_bd _ _ i)
  have bh := val_bd hh
  have pl := pw_le (show n ≤ n + 1 by omega)
  exact (split_eq bs.1 bs.2 (show 0 ≤ val f (n + 1) - Q * val h n by omega) (show val f (n + 1) - Q * val h n < pw (n + 1) by omega) (a := addC (ext (n + 1) (subD (ext (n + 1) f) (ext n h) (Q + 1))) (ext n h) (n + 1)) (b := subL (ext (n + 1) f) (ext n h) (Q + 1) (n + 1)) (by omega)).2

set_option maxHeartbeats 1600000 in
theorem takeMost_any (a : Option Addr) (g off n cap : Nat) (f : Nat → Int) (a2 : Option Addr) (b2 off2 cap2 : Nat) (h : Nat → Int) (w : World) (hO : Own w a g off (n + 1) f) (hs2 : Seg w a2 b2 off2 n h)
    (hn : n ≤ 100000) (hn2 : 2 ≤ n) (hf : Digs f (n + 1)) (hh : Canon n h) (hne : b2 ≠ g) (hlt : val f (n + 1) < 65536 * val h n) :
    Calls Tryd.prog 52 #[.slice a (n + 1) cap, .slice a2 n cap2] w fun e w' => GivesMost g off n a (val f (n + 1)) (val h n) w e w' := by
  have hb := canon_pos hh (by omega)
  have ha := (val_bd hf).1
  obtain ⟨q0, q1, q2, q3, q4⟩ := quo_facts hb ha hlt
  have HG := guess_val hn2 hf hh hlt
  have htop := hh.last.resolve_left (by omega)
  obtain ⟨Q, hQ⟩ : ∃ Q, Q = val f (n + 1) / val h n := ⟨_, rfl⟩
  rw [← hQ] at q0 q1 q2 q3 q4 HG
  have HQ : Hid (Q = val f (n + 1) / val h n) := hQ
  have H4 : Hid (val f (n + 1) % val h n = val f (n + 1) - Q * val h n) := q4
  clear hQ q4
  rcases HG with ht | ht
  · have hR := most_right hf hh.digs q0 q2
    have HL : Hid (subL (ext (n + 1) f) (ext n h) Q (n + 1) = 0) := hR.1
    have HV : Hid (val (subD (ext (n + 1) f) (ext n h) Q) (n + 1) = val f (n + 1) - Q * val h n) := hR.2
    have HT : Hid (top3 f n / top2 h n = Q) := ht
    clear hR ht q2 q3 hlt
    go_enter Tryd.func52, Tryd.ntmps52
    go_wp2_with fail
    refine (guessDigit_any a g off n cap f a2 b2 off2 cap2 h _ hO.toSeg hs2 (by omega) hn2 hf hh.digs htop).mono ?_
    rintro e w1 ⟨rfl, q, rfl⟩
    rw [HT.out]
    have D := below_drewN (Below.refl w.heap.size w) q
    have S1 : Spot g off (n + 1) w (w.drewN q) := (Spot.refl _ _ _ _).drew q
    have hO1 := hO.of_all D
    have t1 := hs2.of_all D
    clear D
    generalize w.drewN q = w1 at *
    go_wp2_with fail
    refine (takeTimes_any a g off (n + 1) cap f a2 b2 off2 n cap2 h Q _ hO1 t1 (by omega) (by omega) hf hh.digs (fun _ => hne) q0 (by omega)).mono ?_
    rintro e w2 ⟨rfl, hO2, hT2⟩
    rw [HL.out]
    go_wp2
    go_ret
    exact ⟨_, ret_int HQ.out, hO2, fun i _ => subD_bd _ _ _ i, HV.out.trans H4.out.symm, S1.trans hT2⟩
  · have hR := most_high hf hh.digs q0 q2 q3
    have hL := hR.1
    have HV : Hid (val (addD (ext (n + 1) (subD (ext (n + 1) f) (ext n h) (Q + 1))) (ext n h)) (n + 1) = val f (n + 1) - Q * val h n) := hR.2
    have HT : Hid (top3 f n / top2 h n = Q + 1) := ht
    clear hR ht q2 q3 hlt
    go_enter Tryd.func52, Tryd.ntmps52
    go_wp2_with fail
    refine (guessDigit_any a g off n cap f a2 b2 off2 cap2 h _ hO.toSeg hs2 (by omega) hn2 hf hh.digs htop).mono ?_
    rintro e w1 ⟨rfl, q, rfl⟩
    rw [HT.out]
    have D := below_drewN (Below.refl w.heap.size w) q
    have S1 : Spot g off (n + 1) w (w.drewN q) := (Spot.refl _ _ _ _).drew q
    have hO1 := hO.of_all D
    have t1 := hs2.of_all D
    clear D
    generalize w.drewN q = w1 at *
    go_wp2_with fail
    refine (takeTimes_any a g off (n + 1) cap f a2 b2 off2 n cap2 h (Q + 1) _ hO1 t1 (by omega) (by omega) hf hh.digs (fun _ => hne) (by omega) (by omega)).mono ?_
    rintro e w2 ⟨rfl, hO2, hT2⟩
    have t2 := t1.touch hT2.toTouch (fun _ => hne)
    have S2 := S1.trans hT2
    have D2 : Digs (subD (ext (n + 1) f) (ext n h) (Q + 1)) (n + 1) := fun i _ => subD_bd _ _ _ i
    generalize subL (ext (n + 1) f) (ext n h) (Q + 1) (n + 1) = L at *
    generalize subD (ext (n + 1) f) (ext n h) (Q + 1) = s at *
    clear hO1 t1 hT2 S1
    go_wp2_with fail
    refine (addDigits_any a g off (n + 1) cap s a2 b2 off2 n cap2 h _ hO2 t2 (by omega) (by omega) D2 hh.digs (fun _ => hne)).mono ?_
    rintro e w3 ⟨rfl, hO3, hT3⟩
    go_wp2
    go_ret
    exact ⟨_, ret_int HQ.out, hO3, fun i _ => addD_bd _ _ i, HV.out.trans H4.out.symm, S2.trans hT3⟩

end Go.Proofs.YtmkmojcefgcmlaaDoor
