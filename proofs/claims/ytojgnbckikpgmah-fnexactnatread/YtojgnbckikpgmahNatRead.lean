/- Walks: NatRead, the model's and the program's. -/
import Derived.Test.YtojgnbckikpgmahNorm
import Derived.Test.YtojgnbckikpgmahBLists
import Derived.Test.YtojgnbckikpgmahBits
import Derived.RegionTactic
import Derived.ChangeAlike
import Derived.BigRegion
namespace Go.Proofs.Ytojgnbckikpgmah
set_option linter.unusedVariables false
open Go.RowKit

/-- The byte at a place, counted from the end. -/
def rb (n : Nat) (f : Nat → Int) (i : Nat) : Int := if i < n then f (n - 1 - i) else 0

/-- The digit at a place. -/
def rd (n : Nat) (f : Nat → Int) (j : Nat) : Int := rb n f (2 * j) + 256 * rb n f (2 * j + 1)

/-- The digits when k bytes are read. -/
def rdK (n : Nat) (f : Nat → Int) (k j : Nat) : Int := (if 2 * j < k then rb n f (2 * j) else 0) + 256 * (if 2 * j + 1 < k then rb n f (2 * j + 1) else 0)

def Byts (f : Nat → Int) (n : Nat) : Prop := ∀ i, i < n → 0 ≤ f i ∧ f i ≤ 255

theorem rb_bd {n : Nat} {f : Nat → Int} (h : Byts f n) (i : Nat) : 0 ≤ rb n f i ∧ rb n f i ≤ 255 := by
  unfold rb
  by_cases e : i < n
  · rw [if_pos e]; exact h _ (by omega)
  · rw [if_neg e]; omega

theorem rd_digs {n : Nat} {f : Nat → Int} (h : Byts f n) (m : Nat) : Digs (rd n f) m := fun i _ => by
  have h1 := rb_bd h (2 * i)
  have h2 := rb_bd h (2 * i + 1)
  unfold rd
  omega

/-- NatRead's answer. -/
def readQ (n : Nat) (f : Nat → Int) : Option Int := if n ≤ 128 then some (val (rd n f) ((n + 1) / 2)) else none

theorem one_cell' (x : Int) : ∀ u ∈ [Value.int .i64 x], u.oneCell' = true := by
  intro u hu
  simp at hu
  subst hu
  rfl

structure Reading (n : Nat) (f : Nat → Int) (w wr : World) (v : Value) (k : Nat) : Prop where
  own : wr.ownsRow w.heap.size 3 1 v k (ints (rd n f) k)
  notnil : v ≠ .slice none 0 0
  below : Below w.heap.size w wr

theorem reading_step {n : Nat} {f : Nat → Int} {w wr w1 : World} {v v' : Value} {k : Nat} {o : Obj} {x : Int} (h : Reading n f w wr v k) (hx : x = rd n f k)
    (hown : w1.ownsRow w.heap.size 3 1 v' (k + 1) (ints (rd n f) k ++ [.int .i64 x])) (hg : (wr.alloc o).grownBy w1 v.ownBlock) (hv : v' ≠ .slice none 0 0) : Reading n f w w1 v' (k + 1) :=
  ⟨by rw [ints_succ, ← hx]; exact hown, hv, (h.below.alloc h.below.size _).grown hg (by have := h.below.size; simp; omega) (fun j hj => (h.own.lt j hj).1)⟩

set_option maxHeartbeats 1600000 in
theorem specNatRead_any (a : Option Addr) (b off n cap : Nat) (f : Nat → Int) (w : World) (hs : BSeg w a b off n f) (hn : n ≤ 1048576) (hB : Byts f n) :
    Calls Try.prog 13 #[.slice a n cap] w fun e w' => GivesQ w (readQ n f) e w' := by
  by_cases h128 : n ≤ 128
  · have Hv : Hid (readQ n f = some (val (rd n f) ((n + 1) / 2))) := by show _ = _; simp [readQ, h128]
    obtain ⟨i0, hi, hz0, hz1, hz2⟩ := info_parts Try.info3
    have hng : ¬ (128 : Int) < (n : Int) := by omega
    go_enter Try.func13, Try.ntmps13
    go_wp2
    go_loopw [4, 5] (fun v i wr => ∃ k : Nat, 2 * k ≤ n + 1 ∧ i = .int .i64 ((n : Int) - 1 - 2 * k) ∧ Reading n f w wr v k) (fun _ i _ => (intOf i + 2).toNat)
    case atStart => exact ⟨0, by omega, by go_num, World.ownsRow_made w #[] 0 (Nat.le_refl _) (by simp) rfl, by simp, (Below.refl _ _).alloc (Nat.le_refl _) _⟩
    case round =>
      obtain ⟨k, hk, rfl, hR⟩ := hrel
      by_cases hgo : 2 * k < n
      · obtain ⟨p, hp⟩ : ∃ p : Nat, p = n - 1 - 2 * k := ⟨_, rfl⟩
        have hpi : (n : Int) - 1 - 2 * (k : Int) = (p : Int) := by omega
        have hpn : p < n := by omega
        have hpn' : (p : Int) < (n : Int) := by omega
        obtain rfl := hs.at' (by omega)
        have sA := hs.of_all hR.below
        have hc := sA.cell p hpn
        obtain ⟨b0, b1⟩ := hB p hpn
        have Hb : Hid (rb n f (2 * k) = f p) := by show _ = _; rw [rb, if_pos hgo, ← hp]
        by_cases hp0 : p = 0
        · subst hp0
          have Hx : Hid (f 0 = rd n f k) := by show _ = _; rw [rd, Hb.out, rb, if_neg (by omega)]; omega
          have hc0 : wr.cell? ⟨b, off, none⟩ = some (.int .u8 (f 0)) := by simpa using hc
          have hpi0 : (n : Int) - 1 - 2 * (k : Int) = 0 := by omega
          clear hp hc hpi
          go_wp2_with (at_builtin; refine wpList_append_own _ rfl _ _ 22 rfl w.heap.size 3 i0 (.int .i64 0) 1 8 Try.underlying22 hi hz0 hz1 hz2 rfl (by decide) _ _ _ rfl (hR.own.alloc _) ⟨wr.heap.size, 0, none⟩ 1 1 [.int .i64 (f 0)] rfl rfl (cell_one_new _ _ _) (one_cell' _) (by unfold maxLen; omega) (by omega) (by have := hR.below.size; simp; omega) ?_; intro v' w1 hown' hgrow hnil)
          have hN := reading_step hR Hx.out hown' hgrow (fun e => hR.notnil (hnil.1 e).1)
          clear hown' hgrow hnil hR
          go_wp2
          go_roundw
          case rel => exact ⟨k + 1, by omega, by go_num, hN⟩
          case measure => simp [intOf]; omega
        · obtain ⟨r, rfl⟩ : ∃ r, p = r + 1 := ⟨p - 1, by omega⟩
          have hc2 := sA.cell r (by omega)
          obtain ⟨c0, c1⟩ := hB r (by omega)
          have Hx : Hid (f (r + 1) + 256 * f r = rd n f k) := by show _ = _; rw [rd, Hb.out, rb, if_pos (by omega), show n - 1 - (2 * k + 1) = r by omega]
          clear hp
          have hpos : (0 : Int) < (r : Int) + 1 := by omega
          have hrn : (r : Int) < (n : Int) := by omega
          go_wp2_with (at_builtin; refine wpList_append_own _ rfl _ _ 22 rfl w.heap.size 3 i0 (.int .i64 0) 1 8 Try.underlying22 hi hz0 hz1 hz2 rfl (by decide) _ _ _ rfl (hR.own.alloc _) ⟨wr.heap.size, 0, none⟩ 1 1 [.int .i64 (f (r + 1) + 256 * f r)] rfl rfl (cell_one_new _ _ _) (one_cell' _) (by unfold maxLen; omega) (by omega) (by have := hR.below.size; simp; omega) ?_; intro v' w1 hown' hgrow hnil)
          have hN := reading_step hR Hx.out hown' hgrow (fun e => hR.notnil (hnil.1 e).1)
          clear hown' hgrow hnil hR
          go_wp2
          go_roundw
          case rel => exact ⟨k + 1, by omega, by go_num, hN⟩
          case measure => simp [intOf]; omega
      · have hkL : k = (n + 1) / 2 := by omega
        have HL : Hid (k = (n + 1) / 2) := hkL
        clear hkL
        have hneg : ¬ (0 : Int) ≤ (n : Int) - 1 - 2 * (k : Int) := by omega
        obtain ⟨gg, cap', hv', hg', hc', hO2⟩ := own_some hR.own hR.notnil
        have hb := hR.below
        rw [hv']
        clear hv' hR
        go_wp2_with fail
        refine (l1Norm_any gg 0 k cap' _ _ hO2.toSeg (by omega) hc').mono ?_
        rintro e w' ⟨g3, cap3, m, rfl, hm, hmc, hz, hl, hg3, hO3, hB3⟩
        have hb2 := hb.trans (hB3.mono hb.size)
        have hge : w.heap.size ≤ g3 := by have := hb.size; omega
        go_wp2
        go_ret2
        refine ⟨_, g3, cap3, m, rd n f, true, rfl, by omega, ?_, hge, hO3, hb2⟩
        rw [Hv.out]
        exact ⟨⟨rd_digs hB m, hl⟩, by rw [val_noughts hm hz, HL.out], rfl⟩
  · have Hv : Hid (readQ n f = none) := by show _ = _; simp [readQ, h128]
    have hng : (128 : Int) < (n : Int) := by omega
    go_enter Try.func13, Try.ntmps13
    go_wp2
    go_ret2
    exact GivesQ.none Hv.out rfl ((Below.refl _ _).alloc (Nat.le_refl _) _)
end Go.Proofs.Ytojgnbckikpgmah
