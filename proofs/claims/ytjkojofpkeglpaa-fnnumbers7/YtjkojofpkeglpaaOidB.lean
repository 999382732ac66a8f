/- Walks: OidBytes of the program and of the model. Written by mkoid.py. -/
import Derived.Test.YtjkojofpkeglpaaOidN
import Derived.Test.YtjkojofpkeglpaaIn
import Derived.Test.YtjkojofpkeglpaaLists
import Derived.Test.YtjkojofpkeglpaaStepsC
namespace Go.Proofs.Ytjkojofpkeglpaa
set_option linter.unusedVariables false
set_option linter.unusedSimpArgs false
open Go.RowKit

def oidHead (f : Nat → Int) : Bool := decide (0 ≤ f 0 ∧ f 0 ≤ 2 ∧ 0 ≤ f 1 ∧ (f 0 = 2 → f 1 ≤ 1000000) ∧ (f 0 ≠ 2 → f 1 ≤ 39))
def oidAll (f : Nat → Int) : Nat → Bool
  | 0 => true
  | k + 1 => oidAll f k && decide (0 ≤ f (k + 2) ∧ f (k + 2) ≤ 1000000000)
/-- Whether the numbers are an identifier's. -/
def oidB (f : Nat → Int) (n : Nat) : Bool := decide (2 ≤ n ∧ n ≤ 12) && (oidHead f && oidAll f (n - 2))
def oN (f : Nat → Int) : Nat → Nat
  | 0 => lenB 128 (40 * f 0 + f 1) + 1
  | j + 1 => oN f j + (lenB 128 (f (j + 2)) + 1)
def oF (f : Nat → Int) : Nat → Nat → Int
  | 0 => s7 (40 * f 0 + f 1)
  | j + 1 => catF (oF f j) (oN f j) (s7 (f (j + 2)))
def oidM (f : Nat → Int) (n : Nat) : Nat := if oidB f n = true then oN f (n - 2) else 0

theorem oidAll_iff (f : Nat → Int) (k : Nat) : oidAll f k = true ↔ ∀ j, j < k → 0 ≤ f (j + 2) ∧ f (j + 2) ≤ 1000000000 := by
  induction k with
  | zero => exact ⟨fun _ j hj => absurd hj (Nat.not_lt_zero _), fun _ => rfl⟩
  | succ k ih =>
    simp only [oidAll, Bool.and_eq_true, ih, decide_eq_true_eq]
    constructor
    · rintro ⟨h, h2⟩ j hj
      by_cases e : j = k
      · subst e; exact h2
      · exact h j (by omega)
    · exact fun h => ⟨fun j hj => h j (by omega), h k (by omega)⟩
theorem oidAll_false {f : Nat → Int} {k j : Nat} (hj : j < k) (h : f (j + 2) < 0 ∨ 1000000000 < f (j + 2)) : oidAll f k = false := by
  cases hb : oidAll f k with
  | false => rfl
  | true => have := (oidAll_iff f k).1 hb j hj; omega
theorem oidHead_true {f : Nat → Int} (h : oidHead f = true) : 0 ≤ f 0 ∧ f 0 ≤ 2 ∧ 0 ≤ f 1 ∧ (f 0 = 2 → f 1 ≤ 1000000) ∧ (f 0 ≠ 2 → f 1 ≤ 39) := of_decide_eq_true h
theorem oN_le {f : Nat → Int} {k : Nat} (h : oidHead f = true) (ha : ∀ j, j < k → 0 ≤ f (j + 2) ∧ f (j + 2) ≤ 1000000000) : oN f k ≤ 9 * (k + 1) := by
  induction k with
  | zero =>
    have hh := oidHead_true h
    have := (lenB_is (B := 128) (.inl rfl) (40 * f 0 + f 1) (by omega)).le (.inl rfl) (by omega) (by by_cases e : f 0 = 2 <;> omega)
    show lenB 128 (40 * f 0 + f 1) + 1 ≤ 9 * (0 + 1)
    omega
  | succ k ih =>
    have h1 := ih (fun j hj => ha j (by omega))
    have h2 := ha k (by omega)
    have := (lenB_is (B := 128) (.inl rfl) (f (k + 2)) (by omega)).le (.inl rfl) (by omega) (by omega)
    show oN f k + (lenB 128 (f (k + 2)) + 1) ≤ _
    omega

set_option maxHeartbeats 3200000 in
set_option maxRecDepth 100000 in
theorem oidOk_any (a : Option Addr) (b off n cap : Nat) (f : Nat → Int) (w : World) (hc : n ≤ cap) (hcb : cap ≤ 9223372036854775807) (hs : Seg w a b off n f) :
    Calls Try.prog 40 #[.slice a n cap] w fun e w' => e = .returned (.bool (oidB f n)) ∧ w' = w := by
  by_cases h2 : 2 ≤ n
  · by_cases h12 : n ≤ 12
    · obtain rfl := hs.at' (by omega)
      have hc0 : w.cell? ⟨b, off, none⟩ = some (.int .i64 (f 0)) := by simpa using hs.cell 0 (by omega)
      have hc1 := hs.cell 1 (by omega)
      have n2 : ¬ (n : Int) < 2 := by omega
      have n12 : ¬ (12 : Int) < n := by omega
      have nc : (n : Int) ≤ cap := by omega
      have i1 : (1 : Int) < n := by omega
      have i0 : (0 : Int) < n := by omega
      have Hs := hide hs
      have HB : Hid (oidB f n = (oidHead f && oidAll f (n - 2))) := by unfold oidB Hid; rw [decide_eq_true ⟨h2, h12⟩]; rfl
      clear hs
      by_cases z0 : f 0 < 0
      · have HF : Hid (oidB f n = false) := by unfold Hid; rw [HB.out, show oidHead f = false from decide_eq_false (by omega)]; rfl
        go_enter Try.func40, Try.ntmps40
        go_wp2
        go_ret
        exact ⟨ret_bool HF.out.symm, rfl⟩
      by_cases z1 : 2 < f 0
      · have HF : Hid (oidB f n = false) := by unfold Hid; rw [HB.out, show oidHead f = false from decide_eq_false (by omega)]; rfl
        go_enter Try.func40, Try.ntmps40
        go_wp2
        go_ret
        exact ⟨ret_bool HF.out.symm, rfl⟩
      have hmx : ∃ M : Int, (f 0 = 2 ∧ M = 1000000) ∨ (f 0 ≠ 2 ∧ M = 39) := by
        by_cases e : f 0 = 2
        · exact ⟨_, .inl ⟨e, rfl⟩⟩
        · exact ⟨_, .inr ⟨e, rfl⟩⟩
      obtain ⟨M, hM⟩ := hmx
      by_cases z2 : f 1 < 0
      · have HF : Hid (oidB f n = false) := by unfold Hid; rw [HB.out, show oidHead f = false from decide_eq_false (by omega)]; rfl
        rcases hM with ⟨e0, rfl⟩ | ⟨e0, rfl⟩ <;> (
          go_enter Try.func40, Try.ntmps40
          go_wp2
          go_ret
          exact ⟨ret_bool HF.out.symm, rfl⟩)
      by_cases z3 : M < f 1
      · have HF : Hid (oidB f n = false) := by unfold Hid; rw [HB.out, show oidHead f = false from decide_eq_false (by omega)]; rfl
        rcases hM with ⟨e0, rfl⟩ | ⟨e0, rfl⟩ <;> (
          go_enter Try.func40, Try.ntmps40
          go_wp2
          go_ret
          exact ⟨ret_bool HF.out.symm, rfl⟩)
      have HH : Hid (oidB f n = oidAll f (n - 2)) := by
        unfold Hid; rw [HB.out, show oidHead f = true from decide_eq_true (by omega)]; rfl
      clear HB
      have hcc : cap = 2 ∨ (2 : Int) < cap ∧ cap ≠ 2 := by omega
      obtain ⟨m, hm⟩ : ∃ m, n - 2 = m := ⟨_, rfl⟩
      have Hm := hide hm
      have HcN := hide hc
      clear hc
      rcases hM with ⟨e0, rfl⟩ | ⟨e0, rfl⟩ <;> rcases hcc with rfl | ⟨hcc, hcn⟩ <;> (
        go_enter Try.func40, Try.ntmps40
        go_wp2
        rename_i K hK
        have HK := hide hK
        clear hK hm
        go_loop [44] (fun i => ∃ k : Nat, k ≤ m ∧ i = .int .i64 (k : Int) ∧ oidAll f k = true) (fun i => m - (intOf i).toNat)
        case atStart => exact ⟨0, by omega, rfl, rfl⟩
        case round =>
          obtain ⟨k, hk, rfl, ha⟩ := hrel
          have HA := hide ha
          clear ha
          by_cases hlt : k < m
          · first
            | (exfalso; have := Hm.out; have := HcN.out; omega)
            | (
              have hkm : (k : Int) < m := by omega
              have hck := Hs.out.cell (k + 2) (by have := Hm.out; omega)
              rw [show off + (k + 2) = off + 2 + k by omega] at hck
              have m12 : (m : Int) ≤ 12 := by have := Hm.out; omega
              by_cases y0 : f (k + 2) < 0
              · have HF : Hid (oidB f n = false) := by unfold Hid; rw [HH.out, Hm.out]; exact oidAll_false hlt (.inl y0)
                go_wp2
                go_ret
                exact ⟨ret_bool HF.out.symm, rfl⟩
              · by_cases y1 : 1000000000 < f (k + 2)
                · have HF : Hid (oidB f n = false) := by unfold Hid; rw [HH.out, Hm.out]; exact oidAll_false hlt (.inr y1)
                  go_wp2
                  go_ret
                  exact ⟨ret_bool HF.out.symm, rfl⟩
                · have HA2 : Hid (oidAll f (k + 1) = true) := by
                    unfold Hid
                    simp only [oidAll, HA.out, Bool.true_and, decide_eq_true_eq]
                    omega
                  go_wp2
                  go_round
                  case rel => exact ⟨k + 1, by omega, by go_num, HA2.out⟩
                  case measure => simp [intOf]; omega)
          · obtain rfl : k = m := by omega
            have HF : Hid (oidB f n = true) := by unfold Hid; rw [HH.out, Hm.out]; exact HA.out
            go_wp2
            apply HK.out
            clear HK
            go_wp2
            go_ret
            exact ⟨ret_bool HF.out.symm, rfl⟩)
    · have n2 : ¬ (n : Int) < 2 := by omega
      have n12 : (12 : Int) < n := by omega
      have HF : Hid (oidB f n = false) := by unfold Hid oidB; rw [decide_eq_false (by omega)]; rfl
      clear hs
      go_enter Try.func40, Try.ntmps40
      go_wp2
      go_ret
      exact ⟨ret_bool HF.out.symm, rfl⟩
  · have n2 : (n : Int) < 2 := by omega
    have HF : Hid (oidB f n = false) := by unfold Hid oidB; rw [decide_eq_false (by omega)]; rfl
    clear hs
    go_enter Try.func40, Try.ntmps40
    go_wp2
    go_ret
    exact ⟨ret_bool HF.out.symm, rfl⟩

set_option maxHeartbeats 3200000 in
set_option maxRecDepth 100000 in
theorem implOidBytes_any (a : Option Addr) (b off n cap : Nat) (f : Nat → Int) (w : World) (hc : n ≤ cap) (hcb : cap ≤ 9223372036854775807) (hs : Seg w a b off n f) :
    Calls Try.prog 19 #[.slice a n cap] w fun e w' => GivesBo w (oidM f n) (oF f (n - 2)) (oidB f n) e w' := by
  have HK0 := hide (oidOk_any a b off n cap f w hc hcb hs)
  by_cases hB : oidB f n = true
  · have HB := hide hB
    have h2 : 2 ≤ n ∧ n ≤ 12 := by
      unfold oidB at hB
      rw [Bool.and_eq_true] at hB
      exact of_decide_eq_true hB.1
    have hh : oidHead f = true := by
      unfold oidB at hB
      rw [Bool.and_eq_true, Bool.and_eq_true] at hB
      exact hB.2.1
    have hA : oidAll f (n - 2) = true := by
      unfold oidB at hB
      rw [Bool.and_eq_true, Bool.and_eq_true] at hB
      exact hB.2.2
    have HA := hide ((oidAll_iff f (n - 2)).1 hA)
    have HH := hide hh
    have HM : Hid (oidM f n = oN f (n - 2)) := by unfold Hid oidM; rw [hB]; rfl
    obtain ⟨p0, p1, p2, p3, p4⟩ := oidHead_true hh
    rw [hB] at HK0
    obtain rfl := hs.at' (by omega)
    have hc0 : w.cell? ⟨b, off, none⟩ = some (.int .i64 (f 0)) := by simpa using hs.cell 0 (by omega)
    have hc1 := hs.cell 1 (by omega)
    have i1 : (1 : Int) < n := by omega
    have i0 : (0 : Int) < n := by omega
    have nc : (n : Int) ≤ cap := by omega
    have x1 : f 1 ≤ 1000000 := by by_cases e : f 0 = 2 <;> omega
    have y0 : 0 ≤ 40 * f 0 := by omega
    have y1 : 40 * f 0 ≤ 80 := by omega
    have r1 : wrap64 (40 * f 0) = 40 * f 0 := by unfold wrap64; omega
    have r2 : IntKind.i64.wrap (40 * f 0) = 40 * f 0 := by rw [IntKind.wrap_i64]; omega
    have r3 : wrap64 (40 * f 0 + f 1) = 40 * f 0 + f 1 := by unfold wrap64; omega
    have r4 : IntKind.i64.wrap (40 * f 0 + f 1) = 40 * f 0 + f 1 := by rw [IntKind.wrap_i64]; omega
    have Hs := hide hs
    obtain ⟨m, hm⟩ : ∃ m, n - 2 = m := ⟨_, rfl⟩
    rw [hB, HM.out, hm]
    rw [hm] at HA
    have Hm := hide hm
    have HcN := hide hc
    have hcc : cap = 2 ∨ (2 : Int) < cap ∧ cap ≠ 2 := by omega
    clear hs hB hA hh p3 p4 HM hm hc
    rcases hcc with rfl | ⟨hcc, hcn⟩ <;> (
      go_enter Try.func19, Try.ntmps19
      go_wp2_with fail
      refine HK0.out.mono ?_
      rintro e w1 ⟨rfl, rfl⟩
      clear HK0
      go_wp2_with fail
      obtain ⟨X, hX⟩ : ∃ X : Nat → Prop, X = fun k => w1.heap.size ≤ k := ⟨_, rfl⟩
      have x0 : ∀ k, k < w1.heap.size → ¬ X k := fun k h => by rw [hX]; simp; omega
      clear hX
      have k0 := cell_reC hc0 (x0 _ (World.block_lt_of_cell? _ _ hc0))
      have k1 := cell_reC hc1 (x0 _ (World.block_lt_of_cell? _ _ hc1))
      have j0 : 0 < n := by omega
      have j1 : 1 < n := by omega
      have j2 : ¬ n = 0 := by omega
      have j3 : ¬ n ≤ 1 := by omega
      refine anyK_begin X 10 rfl (by kernel_rfl) ?_
      refine anyK_take 0 8 2 rfl (by decide) (by kernel_rfl) (fun _ _ d _ _ h => by cases d <;> exact h) ?_
      repeat (refine headC_step (fun K hK => ?_); go_simp; first | (refine hK _ ?_; clear hK K) | (apply Exists.intro; refine ⟨fun _ => ?_, hK _ ?_⟩; (fail); clear hK K))
      refine headC_nil ?_
      clear k0 k1 r1 r2 r3 r4
      refine anyK_one 8 (by kernel_rfl) ?_
      refine stepK_run rfl ?_
      intro w2 h2' K hK
      go_simp
      refine (oidNumberBytes_any (40 * f 0 + f 1) w2 (by omega) (by omega)).mono ?_
      rintro e w3 ⟨v, rfl, hO, h3⟩
      refine hK _ _ (.of_ext (h2'.trans h3)) ?_
      clear hK K
      have HO := hide (owns_mono hO (Below.size h2'))
      have HE := hide (h2'.trans h3)
      clear hO h2' h3
      refine anyK_one 9 (by kernel_rfl) ?_
      refine stepK_run rfl ?_
      intro w4 h4 K hK
      go_simp
      refine hK _ _ (.of_ext (HE.out.trans h4)) ?_
      clear hK K
      replace HO := hide (owns_ext' HO.out h4)
      replace HE := hide (HE.out.trans h4)
      clear h4
      refine anyK_done (by kernel_rfl) ?_ 0
      intro w5 h5
      replace HO : Hid (w5.ownsRow w1.heap.size 5 1 v (oN f 0) (byts (oF f 0) (oN f 0))) := hide (owns_ext' HO.out h5)
      replace HE := hide (HE.out.trans h5)
      clear h5 x0 X hc0 hc1
      have HN := hide (oN_le (k := m) HH.out HA.out)
      have hm' : n - 2 = m := Hm.out
      go_wp2
      clear hm'
      rename_i K hK
      have HK := hide hK
      clear hK
      go_loopw [4, 23] (fun v i wr => ∃ k : Nat, k ≤ m ∧ i = .int .i64 (k : Int) ∧ wr.ownsRow w1.heap.size 5 1 v (oN f k) (byts (oF f k) (oN f k)) ∧ Ext w1 wr) (fun _ i _ => m - (intOf i).toNat)
      case atStart => exact ⟨0, by omega, rfl, HO.out, HE.out⟩
      case round =>
        clear HO HE
        obtain ⟨k, hk, rfl, hO, hE⟩ := hrel
        have HO := hide hO
        have HE := hide hE
        clear hO hE
        by_cases hlt : k < m
        · first
          | (exfalso; have := Hm.out; have := HcN.out; omega)
          | (
            have hkm : (k : Int) < m := by omega
            have hck := Hs.out.cell (k + 2) (by have := Hm.out; omega)
            rw [show off + (k + 2) = off + 2 + k by omega] at hck
            have hck2 : wr.cell? ⟨b, off + 2 + k, none⟩ = some (.int .i64 (f (k + 2))) := by
              rw [World.cell?_of_block (a := ⟨b, off + 2 + k, none⟩) (Below.block HE.out b (World.block_lt_of_cell? _ _ hck))]; exact hck
            have m12 : (m : Int) ≤ 12 := by have := Hm.out; omega
            have hr := HA.out k hlt
            have Hk1 := hide (oN_le (k := k) HH.out (fun j hj => HA.out j (by omega)))
            have HL8 := hide ((lenB_is (B := 128) (.inl rfl) (f (k + 2)) (by omega)).le (.inl rfl) (by omega) (by omega))
            go_wp2_with fail
            refine (oidNumberBytes_any (f (k + 2)) wr (by omega) (by omega)).mono ?_
            rintro e w6 ⟨v6, rfl, hO6, h6⟩
            obtain ⟨xa, xg, xc, rfl, -, -, -, hxB⟩ := owns_seg hO6
            replace HO := hide (owns_ext' HO.out h6)
            replace HE := hide (HE.out.trans h6)
            have HX := hide hxB.toBSeg
            clear hO6 h6 hxB hck hck2
            go_wp2_with (at_builtin; refine wpList_append_bs rfl _ _ rfl w1.heap.size _ (oN f k) (byts (oF f k) (oN f k)) rfl HO.out _ xg 0 (lenB 128 (f (k + 2)) + 1) xc (s7 (f (k + 2))) rfl HX.out (by have := Hk1.out; have := HL8.out; omega) (Below.size HE.out) ?_)
            intro v7 w7 hO7 h7
            rw [byts_append] at hO7
            replace HO : Hid (w7.ownsRow w1.heap.size 5 1 v7 (oN f (k + 1)) (byts (oF f (k + 1)) (oN f (k + 1)))) := hide hO7
            replace HE : Hid (Ext w1 w7) := hide (Below.trans HE.out h7)
            clear hO7 h7 HX
            go_wp2
            go_roundw
            case rel => exact ⟨k + 1, by omega, by go_num, HO.out, HE.out⟩
            case measure => simp [intOf]; omega)
        · obtain rfl : k = m := by omega
          obtain ⟨ya, yg, yc, rfl, hyg, -, -, hyB⟩ := owns_seg HO.out
          have HY := hide hyB
          have Hg := hide hyg
          clear hyB hyg
          go_wp2
          apply HK.out
          clear HK
          go_wp2
          go_ret2
          exact ⟨_, yg, _, rfl, Hg.out, HY.out, HE.out⟩)
  · have hB' : oidB f n = false := by simpa using hB
    have HM : Hid (oidM f n = 0) := by unfold Hid oidM; rw [hB']; rfl
    rw [hB'] at HK0
    rw [HM.out, hB']
    clear hs hB hB' HM
    go_enter Try.func19, Try.ntmps19
    go_wp2_with fail
    refine HK0.out.mono ?_
    rintro e w1 ⟨rfl, rfl⟩
    clear HK0
    go_wp2
    go_ret2
    exact ⟨_, w1.heap.size, _, rfl, Nat.le_refl _, BOwn.nil _ _ _ _ _, Ext.alloc _ _⟩

theorem in_true {x a b : Int} (h : a ≤ x) (k : x ≤ b) : (decide (a ≤ x) && decide (x ≤ b)) = true := by rw [decide_eq_true h, decide_eq_true k]; rfl
theorem in_false {x a b : Int} (h : ¬ (a ≤ x ∧ x ≤ b)) : (decide (a ≤ x) && decide (x ≤ b)) = false := by
  by_cases h1 : a ≤ x
  · rw [decide_eq_false (show ¬ x ≤ b from fun k => h ⟨h1, k⟩)]; simp
  · rw [decide_eq_false h1]; rfl

theorem ret_so {v : Value} {p q : Bool} (h : p = q) : Ending.returned (.tuple #[v, .bool p]) = .returned (.tuple #[v, .bool q]) := by rw [h]

/-- A new list of bytes with its spare room one's own, and ok. -/
def GivesBr (w : World) (M : Nat) (F : Nat → Int) (ok : Bool) (e : Ending) (w' : World) : Prop :=
  ∃ v, e = .returned (.tuple #[v, .bool ok]) ∧ w'.ownsRow w.heap.size 5 1 v M (byts F M) ∧ Ext w w'

set_option maxHeartbeats 3200000 in
set_option maxRecDepth 100000 in
theorem specOidBytes_row (a : Option Addr) (b off n cap : Nat) (f : Nat → Int) (w : World) (hc : n ≤ cap) (hcb : cap ≤ 9223372036854775807) (hs : Seg w a b off n f) :
    Calls Try.prog 17 #[.slice a n cap] w fun e w' => GivesBr w (oidM f n) (oF f (n - 2)) (oidB f n) e w' := by
  have HN0 : Hid ((w.alloc (.cells #[] 5)).ownsRow w.heap.size 5 1 (.slice (some ⟨w.heap.size, 0, none⟩) 0 0) 0 (byts (oF f (n - 2)) 0)) := World.ownsRow_made (base := w.heap.size) (e := 5) (size := 1) w #[] 0 (Nat.le_refl _) (by simp) rfl
  have HW := hide (Ext.alloc w (.cells #[] 5))
  by_cases h2 : 2 ≤ n ∧ n ≤ 12
  · obtain rfl := hs.at' (by omega)
    have hc0 : w.cell? ⟨b, off, none⟩ = some (.int .i64 (f 0)) := by simpa using hs.cell 0 (by omega)
    have hc1 := hs.cell 1 (by omega)
    have hd0 : (w.alloc (.cells #[] 5)).cell? ⟨b, off, none⟩ = some (.int .i64 (f 0)) := by
      rw [World.cell?_of_block (a := ⟨b, off, none⟩) (Below.block HW.out b (World.block_lt_of_cell? _ _ hc0))]; exact hc0
    have hd1 : (w.alloc (.cells #[] 5)).cell? ⟨b, off + 1, none⟩ = some (.int .i64 (f 1)) := by
      rw [World.cell?_of_block (a := ⟨b, off + 1, none⟩) (Below.block HW.out b (World.block_lt_of_cell? _ _ hc1))]; exact hc1
    have i1 : (1 : Int) < n := by omega
    have i0 : (0 : Int) < n := by omega
    have HI := hide (in_true (show (2 : Int) ≤ n by omega) (show (n : Int) ≤ 12 by omega))
    have Hs := hide hs
    have HB : Hid (oidB f n = (oidHead f && oidAll f (n - 2))) := by unfold oidB Hid; rw [decide_eq_true h2]; rfl
    clear hs hc0 hc1
    by_cases hh : oidHead f = true
    · have HH := hide hh
      obtain ⟨p0, p1, p2, p3, p4⟩ := oidHead_true hh
      have HB2 : Hid (oidB f n = oidAll f (n - 2)) := by unfold Hid; rw [HB.out, hh]; rfl
      have x1 : f 1 ≤ 1000000 := by by_cases e : f 0 = 2 <;> omega
      have HI0 := hide (in_true p0 p1)
      have HI1 := hide (in_true p2 x1)
      have y0 : 0 ≤ 40 * f 0 := by omega
      have y1 : 40 * f 0 ≤ 80 := by omega
      have r1 : wrap64 (40 * f 0) = 40 * f 0 := by unfold wrap64; omega
      have r2 : IntKind.i64.wrap (40 * f 0) = 40 * f 0 := by rw [IntKind.wrap_i64]; omega
      have r3 : wrap64 (40 * f 0 + f 1) = 40 * f 0 + f 1 := by unfold wrap64; omega
      have r4 : IntKind.i64.wrap (40 * f 0 + f 1) = 40 * f 0 + f 1 := by rw [IntKind.wrap_i64]; omega
      have q : f 0 < 2 ∧ ¬ 39 < f 1 ∨ ¬ f 0 < 2 := by
        by_cases e : f 0 = 2 <;> omega
      obtain ⟨m, hm⟩ : ∃ m, n - 2 = m := ⟨_, rfl⟩
      rw [hm]
      rw [hm] at HB2 HN0
      have Hm := hide hm
      clear HB hh p3 p4 hm
      rcases q with ⟨q0, q1⟩ | q0 <;> (
        go_enter Try.func17, Try.ntmps17
        go_wp2_with fail
        refine (l1In_int ((n : Int)) 2 12 _).mono ?_
        rintro e w0 ⟨rfl, hw0⟩
        subst hw0
        rw [HI.out]
        go_wp2_with fail
        refine (l1In_int (f 0) 0 2 _).mono ?_
        rintro e w0 ⟨rfl, hw0⟩
        subst hw0
        rw [HI0.out]
        go_wp2_with fail
        refine (l1In_int (f 1) 0 1000000 _).mono ?_
        rintro e w0 ⟨rfl, hw0⟩
        subst hw0
        rw [HI1.out]
        go_wp2_with fail
        obtain ⟨W, hW⟩ : ∃ W, w.alloc (.cells #[] 5) = W := ⟨_, rfl⟩
        rw [hW] at HW HN0 hd0 hd1 ⊢
        have HWe := hide hW
        clear hW
        obtain ⟨X, hX⟩ : ∃ X : Nat → Prop, X = fun k => W.heap.size ≤ k := ⟨_, rfl⟩
        have x0 : ∀ k, k < W.heap.size → ¬ X k := fun k h => by rw [hX]; simp; omega
        clear hX
        have k0 := cell_reC hd0 (x0 _ (World.block_lt_of_cell? _ _ hd0))
        have k1 := cell_reC hd1 (x0 _ (World.block_lt_of_cell? _ _ hd1))
        have j0 : 0 < n := by omega
        have j1 : 1 < n := by omega
        have j2 : ¬ n = 0 := by omega
        have j3 : ¬ n ≤ 1 := by omega
        refine anyK_begin X 10 rfl (by kernel_rfl) ?_
        refine anyK_take 0 8 2 rfl (by decide) (by kernel_rfl) (fun _ _ d _ _ h => by cases d <;> exact h) ?_
        repeat (refine headC_step (fun K hK => ?_); go_simp; first | (refine hK _ ?_; clear hK K) | (apply Exists.intro; refine ⟨fun _ => ?_, hK _ ?_⟩; (fail); clear hK K))
        refine headC_nil ?_
        clear k0 k1 r1 r2 r3 r4 j0 j1 j2 j3
        refine anyK_one 8 (by kernel_rfl) ?_
        refine stepK_run rfl ?_
        intro w2 h2' K hK
        go_simp
        refine (l7Seven_any (40 * f 0 + f 1) w2 (by omega) (by omega)).mono ?_
        rintro e w3 ⟨v, rfl, hO, h3⟩
        refine hK _ _ (.of_ext (h2'.trans h3)) ?_
        clear hK K
        have HO := hide (owns_mono hO (Below.size h2'))
        have HE : Hid (Ext W w3) := hide (h2'.trans h3)
        have HE1 := hide (h2'.trans h3)
        clear hO h2' h3
        refine anyK_one 9 (by kernel_rfl) ?_
        refine stepK_run rfl ?_
        intro w4 h4 K hK
        go_simp
        refine hK _ _ (.of_ext (HE1.out.trans h4)) ?_
        clear hK K HE1
        replace HO := hide (owns_ext' HO.out h4)
        replace HE := hide (HE.out.trans h4)
        clear h4
        refine anyK_done (by kernel_rfl) ?_ 0
        intro w5 h5
        replace HO : Hid (w5.ownsRow W.heap.size 5 1 v (oN f 0) (byts (oF f 0) (oN f 0))) := hide (owns_ext' HO.out h5)
        replace HE := hide (HE.out.trans h5)
        clear h5 x0 X hd0 hd1
        go_wp2
        rename_i K hK
        have HK := hide hK
        clear hK
        go_loopw [5, 6] (fun v i wr => ∃ k : Nat, k ≤ m ∧ i = .int .i64 ((k : Int) + 2) ∧ oidAll f k = true ∧ wr.ownsRow W.heap.size 5 1 v (oN f k) (byts (oF f k) (oN f k)) ∧ Ext W wr) (fun _ i _ => n - (intOf i).toNat)
        case atStart => exact ⟨0, by omega, rfl, rfl, HO.out, HE.out⟩
        case round =>
          clear HO HE
          obtain ⟨k, hk, rfl, ha, hO, hE⟩ := hrel
          have HO := hide hO
          have HE := hide hE
          have HA := hide ha
          clear hO hE ha
          have hkk : ((k : Int) + 2) = ((k + 2 : Nat) : Int) := by omega
          rw [hkk]
          clear hkk
          by_cases hlt : k < m
          · obtain ⟨k2, hk2⟩ : ∃ k2, k + 2 = k2 := ⟨_, rfl⟩
            have Hk2 := hide hk2
            have hkm : (k2 : Int) < n := by have := Hm.out; omega
            have hck := Hs.out.cell (k + 2) (by have := Hm.out; omega)
            have hck2 : wr.cell? ⟨b, off + k2, none⟩ = some (.int .i64 (f k2)) := by
              rw [World.cell?_of_block (a := ⟨b, off + k2, none⟩) (Below.block (HW.out.trans HE.out) b (World.block_lt_of_cell? _ _ hck)), ← hk2]; exact hck
            have Hsz := hide (Below.size HE.out)
            rw [hk2]
            clear hck hk2
            by_cases hin : 0 ≤ f k2 ∧ f k2 ≤ 1000000000
            · have HIk := hide (in_true hin.1 hin.2)
              have HA2 : Hid (oidAll f (k + 1) = true) := by
                unfold Hid
                simp only [oidAll, HA.out, Bool.true_and, decide_eq_true_eq]
                rw [Hk2.out]; exact hin
              have Hk1 := hide (oN_le (k := k) HH.out ((oidAll_iff f k).1 HA.out))
              have HL8 := hide ((lenB_is (B := 128) (.inl rfl) (f k2) (by omega)).le (.inl rfl) (by omega) (by omega))
              have HN1 : Hid (oN f (k + 1) = oN f k + (lenB 128 (f k2) + 1)) := by unfold Hid; rw [← Hk2.out]; rfl
              have HF1 : Hid (oF f (k + 1) = catF (oF f k) (oN f k) (s7 (f k2))) := by unfold Hid; rw [← Hk2.out]; rfl
              go_wp2_with fail
              refine (l1In_int (f k2) 0 1000000000 _).mono ?_
              rintro e w0 ⟨rfl, hw0⟩
              subst hw0
              rw [HIk.out]
              go_wp2_with fail
              refine (l7Seven_any (f k2) _ (by omega) (by omega)).mono ?_
              rintro e w6 ⟨v6, rfl, hO6, h6⟩
              obtain ⟨xa, xg, xc, rfl, -, -, -, hxB⟩ := owns_seg hO6
              replace HO := hide (owns_ext' HO.out h6)
              replace HE := hide (HE.out.trans h6)
              have HX := hide hxB.toBSeg
              clear hO6 h6 hxB hck2
              go_wp2_with (at_builtin; refine wpList_append_bs rfl _ _ rfl W.heap.size _ (oN f k) (byts (oF f k) (oN f k)) rfl HO.out _ xg 0 (lenB 128 (f k2) + 1) xc (s7 (f k2)) rfl HX.out (by have := Hk1.out; have := HL8.out; have := Hm.out; omega) (Below.size HE.out) ?_)
              intro v7 w7 hO7 h7
              rw [byts_append] at hO7
              replace HO : Hid (w7.ownsRow W.heap.size 5 1 v7 (oN f (k + 1)) (byts (oF f (k + 1)) (oN f (k + 1)))) := by
                unfold Hid; rw [HN1.out, HF1.out]; exact hO7
              replace HE : Hid (Ext W w7) := hide (Below.trans HE.out h7)
              clear hO7 h7 HX
              go_wp2
              go_roundw
              case rel => exact ⟨k + 1, by omega, by have := Hk2.out; go_num, HA2.out, HO.out, HE.out⟩
              case measure => simp [intOf]; omega
            · have HIk := hide (in_false hin)
              have HF : Hid (oidB f n = false) := by
                unfold Hid; rw [HB2.out]; exact oidAll_false hlt (by rw [Hk2.out]; omega)
              have HM : Hid (oidM f n = 0) := by unfold Hid oidM; rw [HF.out]; rfl
              go_wp2_with fail
              refine (l1In_int (f k2) 0 1000000000 _).mono ?_
              rintro e w0 ⟨rfl, hw0⟩
              subst hw0
              rw [HIk.out]
              go_wp2
              go_ret2
              rw [HM.out]
              exact ⟨_, (ret_so HF.out.symm), owns_ext' HN0.out HE.out, HW.out.trans HE.out⟩
          · obtain rfl : k = m := by omega
            have HF : Hid (oidB f n = true) := by unfold Hid; rw [HB2.out]; exact HA.out
            have HM : Hid (oidM f n = oN f k) := by unfold Hid oidM; rw [HF.out, Hm.out]; rfl
            have hkn : ¬ ((k + 2 : Nat) : Int) < n := by have := Hm.out; omega
            obtain ⟨k2, hk2⟩ : ∃ k2, k + 2 = k2 := ⟨_, rfl⟩
            rw [hk2] at hkn ⊢
            clear hk2
            go_wp2
            apply HK.out
            clear HK
            go_wp2
            go_ret2
            rw [HM.out]
            exact ⟨_, (ret_so HF.out.symm), owns_mono HO.out (Below.size HW.out), HW.out.trans HE.out⟩)
    · have hh' : oidHead f = false := by simpa using hh
      have HF : Hid (oidB f n = false) := by unfold Hid; rw [HB.out, hh']; rfl
      have HM : Hid (oidM f n = 0) := by unfold Hid oidM; rw [HF.out]; rfl
      have hh2 : ¬ (0 ≤ f 0 ∧ f 0 ≤ 2 ∧ 0 ≤ f 1 ∧ (f 0 = 2 → f 1 ≤ 1000000) ∧ (f 0 ≠ 2 → f 1 ≤ 39)) := of_decide_eq_false hh'
      clear hh hh' HB
      by_cases g0 : 0 ≤ f 0 ∧ f 0 ≤ 2
      · have HI0 := hide (in_true g0.1 g0.2)
        by_cases g1 : 0 ≤ f 1 ∧ f 1 ≤ 1000000
        · have HI1 := hide (in_true g1.1 g1.2)
          have e2 : ¬ f 0 = 2 := by intro e; exact hh2 ⟨g0.1, g0.2, g1.1, fun _ => g1.2, fun k => absurd e k⟩
          have g2 : f 0 < 2 := by omega
          have g3 : 39 < f 1 := by
            by_cases h : f 1 ≤ 39
            · exact absurd ⟨g0.1, g0.2, g1.1, fun k => absurd k e2, fun _ => h⟩ hh2
            · omega
          clear hh2
          go_enter Try.func17, Try.ntmps17
          go_wp2_with fail
          refine (l1In_int ((n : Int)) 2 12 _).mono ?_
          rintro e w0 ⟨rfl, hw0⟩
          subst hw0
          rw [HI.out]
          go_wp2_with fail
          refine (l1In_int (f 0) 0 2 _).mono ?_
          rintro e w0 ⟨rfl, hw0⟩
          subst hw0
          rw [HI0.out]
          go_wp2_with fail
          refine (l1In_int (f 1) 0 1000000 _).mono ?_
          rintro e w0 ⟨rfl, hw0⟩
          subst hw0
          rw [HI1.out]
          go_wp2
          go_ret2
          rw [HM.out]
          exact ⟨_, (ret_so HF.out.symm), HN0.out, Ext.alloc _ _⟩
        · have HI1 := hide (in_false g1)
          clear hh2
          go_enter Try.func17, Try.ntmps17
          go_wp2_with fail
          refine (l1In_int ((n : Int)) 2 12 _).mono ?_
          rintro e w0 ⟨rfl, hw0⟩
          subst hw0
          rw [HI.out]
          go_wp2_with fail
          refine (l1In_int (f 0) 0 2 _).mono ?_
          rintro e w0 ⟨rfl, hw0⟩
          subst hw0
          rw [HI0.out]
          go_wp2_with fail
          refine (l1In_int (f 1) 0 1000000 _).mono ?_
          rintro e w0 ⟨rfl, hw0⟩
          subst hw0
          rw [HI1.out]
          go_wp2
          go_ret2
          rw [HM.out]
          exact ⟨_, (ret_so HF.out.symm), HN0.out, Ext.alloc _ _⟩
      · have HI0 := hide (in_false g0)
        clear hh2
        go_enter Try.func17, Try.ntmps17
        go_wp2_with fail
        refine (l1In_int ((n : Int)) 2 12 _).mono ?_
        rintro e w0 ⟨rfl, hw0⟩
        subst hw0
        rw [HI.out]
        go_wp2_with fail
        refine (l1In_int (f 0) 0 2 _).mono ?_
        rintro e w0 ⟨rfl, hw0⟩
        subst hw0
        rw [HI0.out]
        go_wp2
        go_ret2
        rw [HM.out]
        exact ⟨_, (ret_so HF.out.symm), HN0.out, Ext.alloc _ _⟩
  · have HI := hide (in_false (show ¬ ((2 : Int) ≤ n ∧ (n : Int) ≤ 12) by omega))
    have HF : Hid (oidB f n = false) := by unfold Hid oidB; rw [decide_eq_false h2]; rfl
    have HM : Hid (oidM f n = 0) := by unfold Hid oidM; rw [HF.out]; rfl
    clear hs
    go_enter Try.func17, Try.ntmps17
    go_wp2_with fail
    refine (l1In_int ((n : Int)) 2 12 _).mono ?_
    rintro e w0 ⟨rfl, hw0⟩
    subst hw0
    rw [HI.out]
    go_wp2
    go_ret2
    rw [HM.out]
    exact ⟨_, (ret_so HF.out.symm), HN0.out, Ext.alloc _ _⟩

theorem specOidBytes_any (a : Option Addr) (b off n cap : Nat) (f : Nat → Int) (w : World) (hc : n ≤ cap) (hcb : cap ≤ 9223372036854775807) (hs : Seg w a b off n f) :
    Calls Try.prog 17 #[.slice a n cap] w fun e w' => GivesBo w (oidM f n) (oF f (n - 2)) (oidB f n) e w' := by
  refine (specOidBytes_row a b off n cap f w hc hcb hs).mono ?_
  rintro e w' ⟨v, rfl, hO, hE⟩
  obtain ⟨ya, yg, yc, rfl, hyg, -, -, hyB⟩ := owns_seg hO
  exact ⟨_, yg, _, rfl, hyg, hyB, hE⟩

end Go.Proofs.Ytjkojofpkeglpaa
