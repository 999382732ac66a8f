/- Walks: the program's divideDigits; NatDiv, the model's and the program's. -/
import Derived.Test.YtmkmojcefgcmlaaDoorSpecDiv
namespace Go.Proofs.YtmkmojcefgcmlaaDoor
set_option linter.unusedVariables false
open Go.RowKit

set_option maxHeartbeats 1600000 in
theorem divideDigits_any (a : Option Addr) (b off n cap : Nat) (f : Nat → Int) (a2 : Option Addr) (b2 off2 n2 cap2 : Nat) (h : Nat → Int) (w : World) (hs : Seg w a b off n f) (hs2 : Seg w a2 b2 off2 n2 h)
    (hn : n ≤ 4000) (hn2 : n2 ≤ 4000) (h0 : 0 < n2) (hf : Canon n f) (hh : Canon n2 h) :
    Calls Tryd.prog 41 #[.slice a n cap, .slice a2 n2 cap2] w fun e w' => GivesTwo w (val f n / val h n2) (val f n % val h n2) e w' := by
  have hb := canon_pos hh h0
  have ha := (val_bd hf.digs).1
  by_cases hlt : val f n < val h n2
  · have HQ : Hid (0 = val f n / val h n2) := (Int.ediv_eq_zero_of_lt ha hlt).symm
    have HR : Hid (val f n = val f n % val h n2) := (Int.emod_eq_of_lt ha hlt).symm
    go_enter Tryd.func41, Tryd.ntmps41
    go_wp2_with fail
    refine (compareDigits_any a b off n cap f a2 b2 off2 n2 cap2 h _ hs hs2 (by omega) (by omega) hf hh).mono ?_
    rintro e w1 ⟨rfl, hQ⟩
    rw [cmpV_lt hlt]
    have B1 := hQ.below w.heap.size
    have B2 := B1.alloc B1.size (.cells #[] 3)
    clear hlt hQ
    go_wp2_with fail
    refine (digitsCopy_any a b off n cap f n _ (hs.of_all B2) (Nat.le_refl _) (by omega)).mono ?_
    rintro e w2 ⟨rfl, hO2, hB2⟩
    have B3 := B2.trans (hB2.mono B2.size)
    have ge : w.heap.size ≤ (w1.alloc (.cells #[] 3)).heap.size := B2.size
    have ge1 := B1.size
    have HC : Hid (Canon n (ext n f)) := hf.congr (fun i hi => (ext_in hi).symm)
    have HV : Hid (val (ext n f) n = val f n) := val_ext (Nat.le_refl n)
    go_wp2
    go_ret2
    refine ⟨_, w.heap.size, 0, 0, fun _ => 0, _, _, n, n, ext n f, rfl, by omega, by omega, ⟨fun i hi => absurd hi (Nat.not_lt_zero _), .inl rfl⟩, HQ.out, HC.out, HV.out.trans HR.out, Nat.le_refl _, ge, fun h1 _ => absurd h1 (Nat.lt_irrefl _), Own.nil _ _ _ _ _, (by simpa using hO2), B3⟩
  · have hle : val h n2 ≤ val f n := by omega
    have hcl := canon_le hf hh hle
    have h00 : ¬ cmpV (val f n) (val h n2) < 0 := by simp only [cmpV, if_neg hlt]; split <;> omega
    by_cases h1 : n2 = 1
    · subst h1
      obtain rfl := hs2.at' (by omega)
      have d := hh.digs 0 (by omega)
      have dl : h 0 ≠ 0 := by simpa using hh.last
      have Hv : Hid (val h 1 = h 0) := by show _ = _; simp [val, pw]
      go_enter Tryd.func41, Tryd.ntmps41
      go_wp2_with fail
      refine (compareDigits_any a b off n cap f _ b2 off2 1 cap2 h _ hs hs2 (by omega) (by omega) hf hh).mono ?_
      rintro e w1 ⟨rfl, hQ⟩
      have B1 := hQ.below w.heap.size
      have hc : w1.cell? ⟨b2, off2, none⟩ = some (.int .i64 (h 0)) := by simpa using (hs2.of_all B1).cell 0 (by omega)
      generalize cmpV (val f n) (val h 1) = cc at *
      clear hlt hQ
      go_wp2_with fail
      refine (divideByDigit_any a b off n cap f (h 0) _ (hs.of_all B1) (by omega) hf.digs (by omega) (by omega)).mono ?_
      rintro e w2 hG
      rw [← Hv.out] at hG
      obtain ⟨a3, g3, cap3, n3, f3, a4, g4, cap4, n4, f4, rfl, h31, h32, h33, h34, h35, h36, h37, h38, h39, h40, h41, h42⟩ := hG
      have ge := B1.size
      have B2 := B1.trans (h42.mono B1.size)
      go_wp2
      go_ret2
      exact ⟨a3, g3, cap3, n3, f3, a4, g4, cap4, n4, f4, rfl, h31, h32, h33, h34, h35, h36, by omega, by omega, h39, h40, h41, B2⟩
    · have h1' : ((n2 : Int) == 1) = false := by simp; omega
      go_enter Tryd.func41, Tryd.ntmps41
      go_wp2_with fail
      refine (compareDigits_any a b off n cap f a2 b2 off2 n2 cap2 h _ hs hs2 (by omega) (by omega) hf hh).mono ?_
      rintro e w1 ⟨rfl, hQ⟩
      have B1 := hQ.below w.heap.size
      generalize cmpV (val f n) (val h n2) = cc at *
      clear hlt hQ
      go_wp2_with fail
      refine (divideLong_any a b off n cap f a2 b2 off2 n2 cap2 h _ (hs.of_all B1) (hs2.of_all B1) (by omega) (by omega) hcl hf.digs hh).mono ?_
      rintro e w2 ⟨a3, g3, cap3, n3, f3, a4, g4, cap4, n4, f4, rfl, h31, h32, h33, h34, h35, h36, h37, h38, h39, h40, h41, h42⟩
      have ge := B1.size
      have B2 := B1.trans (h42.mono B1.size)
      go_wp2
      go_ret2
      exact ⟨a3, g3, cap3, n3, f3, a4, g4, cap4, n4, f4, rfl, h31, h32, h33, h34, h35, h36, by omega, by omega, h39, h40, h41, B2⟩

/-- NatDiv may divide. -/
def divB (n : Nat) (f : Nat → Int) (n2 : Nat) (g : Nat → Int) : Bool := natOk n f && natOk n2 g && !(n2 == 0)

/-- NatDiv's answer: nothing twice and false, or the two naturals and true. -/
def IsDiv (n : Nat) (f : Nat → Int) (n2 : Nat) (g : Nat → Int) (m1 : Nat) (F1 : Nat → Int) (m2 : Nat) (F2 : Nat → Int) (ok : Bool) : Prop :=
  ok = divB n f n2 g ∧ (ok = false → m1 = 0 ∧ m2 = 0) ∧ (ok = true → Canon m1 F1 ∧ val F1 m1 = val f n / val g n2 ∧ Canon m2 F2 ∧ val F2 m2 = val f n % val g n2)

def GivesDiv (w : World) (n : Nat) (f : Nat → Int) (n2 : Nat) (g : Nat → Int) (e : Ending) (w' : World) : Prop :=
  ∃ a1 g1 cap1 m1 F1 a2 g2 cap2 m2 F2 ok, e = .returned (.tuple #[.slice a1 m1 cap1, .slice a2 m2 cap2, .bool ok]) ∧ m1 ≤ 1048576 ∧ m2 ≤ 1048576 ∧ IsDiv n f n2 g m1 F1 m2 F2 ok ∧
    w.heap.size ≤ g1 ∧ w.heap.size ≤ g2 ∧ (0 < m1 → 0 < m2 → g1 ≠ g2) ∧ Own w' a1 g1 0 m1 F1 ∧ Own w' a2 g2 0 m2 F2 ∧ Below w.heap.size w w'

theorem GivesDiv.none {w w' : World} {n n2 : Nat} {f g : Nat → Int} {e : Ending} {a1 a2 : Option Addr} {c1 c2 : Nat} (hq : divB n f n2 g = false) (he : e = .returned (.tuple #[.slice a1 0 c1, .slice a2 0 c2, .bool false])) (hb : Below w.heap.size w w') : GivesDiv w n f n2 g e w' :=
  ⟨a1, w.heap.size, c1, 0, fun _ => 0, a2, w.heap.size, c2, 0, fun _ => 0, false, he, by omega, by omega, ⟨hq.symm, fun _ => ⟨rfl, rfl⟩, fun h => by simp at h⟩, Nat.le_refl _, Nat.le_refl _, fun h => absurd h (Nat.lt_irrefl _), Own.nil _ _ _ _ _, Own.nil _ _ _ _ _, hb⟩

theorem GivesTwo.div {w w' : World} {n n2 : Nat} {f g : Nat → Int} {a1 a2 : Option Addr} {g1 g2 c1 c2 m1 m2 : Nat} {F1 F2 : Nat → Int} (hq : divB n f n2 g = true) (k1 : m1 ≤ 1048576) (k2 : m2 ≤ 1048576) (k3 : Canon m1 F1) (k4 : val F1 m1 = val f n / val g n2) (k5 : Canon m2 F2) (k6 : val F2 m2 = val f n % val g n2)
    (k7 : w.heap.size ≤ g1) (k8 : w.heap.size ≤ g2) (k9 : 0 < m1 → 0 < m2 → g1 ≠ g2) (k10 : Own w' a1 g1 0 m1 F1) (k11 : Own w' a2 g2 0 m2 F2) (k12 : Below w.heap.size w w') :
    GivesDiv w n f n2 g (.returned (.tuple #[.slice a1 m1 c1, .slice a2 m2 c2, .bool true])) w' :=
  ⟨a1, g1, c1, m1, F1, a2, g2, c2, m2, F2, true, rfl, k1, k2, ⟨hq.symm, fun h => by simp at h, fun _ => ⟨k3, k4, k5, k6⟩⟩, k7, k8, k9, k10, k11, k12⟩

end Go.Proofs.YtmkmojcefgcmlaaDoor
