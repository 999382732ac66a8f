/- Walks: unmasked, isMark, bytesFor of the program; what PssOk asks, in plain numbers. -/
import Derived.Test.YtjkojofpkeglpabShaG
import Derived.Test.YtjkojofpkeglpabEqB
import Derived.Test.YtjkojofpkeglpabStepsC
namespace Go.Proofs.Ytjkojofpkeglpab
set_option linter.unusedVariables false
set_option linter.unusedSimpArgs false
open Go.RowKit

theorem xor_comm8 (x y : Int) : bits .xor .u8 x y = bits .xor .u8 y x := by
  show IntKind.u8.wrap ((BitVec.ofInt 8 x ^^^ BitVec.ofInt 8 y).toNat : Int) = IntKind.u8.wrap ((BitVec.ofInt 8 y ^^^ BitVec.ofInt 8 x).toNat : Int)
  rw [BitVec.xor_comm]
theorem xor8_range (x y : Int) : 0 ≤ bits .xor .u8 x y ∧ bits .xor .u8 x y < 256 := by
  show 0 ≤ IntKind.u8.wrap _ ∧ IntKind.u8.wrap _ < 256
  rw [IntKind.wrap_u8]
  omega
theorem alike_comm (f g : Nat → Int) (n : Nat) : alike f g n = alike g f n := by
  cases h : alike g f n with
  | true => exact (alike_iff f g n).2 (fun i hi => ((alike_iff g f n).1 h i hi).symm)
  | false =>
    cases k : alike f g n with
    | false => rfl
    | true =>
      rw [(alike_iff g f n).2 (fun i hi => ((alike_iff f g n).1 k i hi).symm)] at h
      cases h

/-- The lowest 8 - s bits. -/
theorem low_and : ∀ s : Nat, s < 8 → ∀ x : Nat, x < 256 → bits .and .u8 (x : Int) ((255 / 2 ^ s : Nat) : Int) = ((x % 2 ^ (8 - s) : Nat) : Int) := by decide +kernel
theorem low_not : ∀ s : Nat, s < 8 → ∀ x : Nat, x < 256 → (bits .andNot .u8 (x : Int) ((255 / 2 ^ s : Nat) : Int) != 0) = !decide (x < 2 ^ (8 - s)) := by decide +kernel

theorem owns_made (w : World) (N : Nat) (hN : N ≤ 1048576) : (w.alloc (.cells (madeCells #[.int .u8 0] N) 5)).ownsRow w.heap.size 5 1 (.slice (some ⟨w.heap.size, 0, none⟩) N N) N (byts (fun _ => 0) N) := by
  have := World.ownsRow_lit (e := 5) (size := 1) (base := w.heap.size) w (madeCells #[.int .u8 0] N) N (Nat.le_refl _) (by unfold maxLen; omega) (by rw [size_madeCells]; simp)
  have e : (madeCells #[.int .u8 0] N).toList = byts (fun _ => 0) N := by
    refine List.ext_getElem ?_ ?_
    · simp [byts, size_madeCells]
    · intro i h1 h2
      simp [madeCells, byts, Nat.mod_one]
  rwa [e] at this

theorem bytesFor_any (k : Int) (w : World) (h0 : 0 ≤ k) (h1 : k ≤ 1000) : Calls Try.prog 58 #[.int .i64 k] w fun e w' => e = .returned (.int .i64 ((k + 7) / 8)) ∧ w' = w := by
  have t : (k + 7).tdiv 8 = (k + 7) / 8 := Int.tdiv_eq_ediv_of_nonneg (by omega)
  go_enter Try.func58, Try.ntmps58
  go_wp2
  go_ret
  exact ⟨rfl, rfl⟩

/-- A new list of bytes, one's own, with its room. -/
def GivesBsc (w : World) (M : Nat) (F : Nat → Int) (e : Ending) (w' : World) : Prop :=
  ∃ a g cap, e = .returned (.slice a M cap) ∧ w.heap.size ≤ g ∧ BOwn w' a g 0 M F ∧ Below w.heap.size w w' ∧ M ≤ cap ∧ cap ≤ 9223372036854775807

/-- The mask and the bytes, byte by byte. -/
def unmF (fw : Nat → Int) (fd : Nat → Int) (i : Nat) : Int := bits .xor .u8 (maskF fw 8 i) (fd i)

set_option maxHeartbeats 1600000 in
set_option maxRecDepth 100000 in
theorem unmasked_any (a : Option Addr) (b off D cap : Nat) (fd : Nat → Int) (wa : Option Addr) (wb woff wcap : Nat) (fw : Nat → Int) (w : World) (hD : D ≤ 200) (hs : BSeg w a b off D fd) (hw : BSeg w wa wb woff 8 fw) (hwy : ∀ i, i < 8 → 0 ≤ fw i ∧ fw i < 256) :
    Calls Try.prog 59 #[.slice a D cap, .slice wa 8 wcap] w fun e w' => GivesBsc w D (unmF fw fd) e w' := by
  have HM := hide (implMask_cap wa wb woff 8 wcap fw D w hD (by omega) hw hwy)
  have Hs := hide hs
  clear hs hw hwy
  go_enter Try.func59, Try.ntmps59
  go_wp2_with fail
  refine HM.out.mono ?_
  rintro e w1 ⟨pa, pg, pc, rfl, hpg, hpO, hE, hpn, hpc⟩
  have HO := hide hpO
  have HE := hide hE
  have Hs1 := hide (Hs.out.of_all hE)
  have Hlt : Hid (0 < D → b < w.heap.size) := hide (fun h => Hs.out.lt h)
  have Hpg := hide hpg
  clear hpO hE HM Hs hpg
  go_wp2
  go_loopw [18] (fun i wr => ∃ k : Nat, k ≤ D ∧ i = .int .i64 (k : Int) ∧ BOwn wr pa pg 0 D (fun j => if j < k then unmF fw fd j else maskF fw 8 j) ∧ BSeg wr a b off D fd ∧ Ext w wr) (fun i _ => D - (intOf i).toNat)
  case atStart => exact ⟨0, by omega, rfl, HO.out.congr (fun i hi => by simp), Hs1.out, HE.out⟩
  case round =>
    clear HO HE Hs1
    obtain ⟨k, hk, rfl, hO, hS, hE⟩ := hrel
    by_cases hlt : k < D
    · have hkD : (k : Int) < D := by omega
      obtain rfl := hS.at' (by omega)
      obtain rfl := hO.at' (by omega)
      have hc := hS.cell k hlt
      have hc2 := hO.cell k hlt
      have hf2 := hO.free k hlt
      have hv : (fun j => if j < k then unmF fw fd j else maskF fw 8 j) k = maskF fw 8 k := by simp
      rw [Nat.zero_add] at hc2 hf2
      simp only [Nat.lt_irrefl, if_false] at hc2
      have HU : Hid (unmF fw fd k = bits .xor .u8 (maskF fw 8 k) (fd k)) := rfl
      obtain ⟨y, hy⟩ : ∃ y, bits .xor .u8 (maskF fw 8 k) (fd k) = y := ⟨_, rfl⟩
      have HO2 := hide ((hO.set hlt y).congr (f' := fun j => if j < k + 1 then unmF fw fd j else maskF fw 8 j) (fun i _ => by
        by_cases e : i = k
        · subst e; rw [if_pos rfl, if_pos (by omega), HU.out, hy]
        · rw [if_neg e]
          by_cases h : i < k
          · rw [if_pos h, if_pos (by omega)]
          · rw [if_neg h, if_neg (by omega)]))
      rw [Nat.zero_add] at HO2
      have HT := hide (Touch.set (Touch.refl pg wr) k (.int .u8 y))
      have HS2 := hide (hS.touch HT.out (fun h => by have := Hlt.out h; have := Hpg.out; omega))
      have HE2 : Hid (Ext w (wr.setCell ⟨pg, k, none⟩ (.int .u8 y))) := hide (below_touch hE HT.out Hpg.out)
      clear hO hS hE hv HT
      generalize maskF fw 8 k = mk at *
      go_wp2
      go_roundw
      case rel => exact ⟨k + 1, by omega, by go_num, HO2.out, HS2.out, HE2.out⟩
      case measure => simp [intOf]; omega
    · obtain rfl : k = D := by omega
      have HO := hide (hO.congr (f' := unmF fw fd) (fun i hi => by simp [hi]))
      have HE := hide hE
      clear hO hS hE
      go_wp2
      go_ret
      exact ⟨_, pg, _, rfl, Hpg.out, HO.out, HE.out, hpn, hpc⟩

/-- Bytes 0 and then a byte 1. -/
def mkF (n : Nat) : Nat → Int := catF (fun _ => 0) (n - 1) (fun _ => 1)
theorem mkF_range (n i : Nat) : 0 ≤ mkF n i ∧ mkF n i < 256 := by
  unfold mkF catF
  split
  · show (0 : Int) ≤ 0 ∧ (0 : Int) < 256; omega
  · show (0 : Int) ≤ 1 ∧ (1 : Int) < 256; omega

set_option maxHeartbeats 1600000 in
set_option maxRecDepth 100000 in
theorem isMark_any (a : Option Addr) (b off n cap : Nat) (f : Nat → Int) (w : World) (h1 : 1 ≤ n) (hn : n ≤ 1000) (hs : BSeg w a b off n f) (hy : ∀ i, i < n → 0 ≤ f i ∧ f i < 256) :
    Calls Try.prog 60 #[.slice a n cap] w fun e w' => e = .returned (.bool (alike f (mkF n) n)) ∧ Ext w w' := by
  obtain ⟨m, hm⟩ : ∃ m, n - 1 = m := ⟨_, rfl⟩
  have hmz : (n : Int) - 1 = (m : Int) := by omega
  have m0 : (0 : Int) ≤ m := by omega
  have m1 : (m : Int) ≤ 1000 := by omega
  have hmk := run_make_row' (P := Try.prog) 22 5 (.int .u8 0) 1 Try.underlying22 Try.info5 rfl .i64 .i64 m (by omega) (by omega)
  have HO := hide ((owns_made w m (by omega)).alloc (.cells #[.int .u8 1] 5))
  have HX : Hid (BSeg ((w.alloc (.cells (madeCells #[.int .u8 0] m) 5)).alloc (.cells #[.int .u8 1] 5)) (some ⟨w.heap.size + 1, 0, none⟩) (w.heap.size + 1) 0 1 (fun _ => 1)) := ⟨fun _ => rfl, fun i hi => by
    have := Blk.alloc (w.alloc (.cells (madeCells #[.int .u8 0] m) 5)) [.int .u8 1] 5
    have e : i = 0 := by omega
    subst e
    have h2 := (this 0 _ rfl).1
    rw [World.size_alloc] at h2
    exact h2⟩
  have E2 := (Ext.alloc w (.cells (madeCells #[.int .u8 0] m) 5)).trans (Ext.alloc _ (.cells #[.int .u8 1] 5))
  have HE2 := hide E2
  have Hs := hide hs
  have Hm := hide hm
  have HY := hide hy
  clear hs hm hy E2
  go_enter Try.func60, Try.ntmps60
  go_wp2_with (at_builtin; refine wpList_append_bs rfl _ _ rfl w.heap.size _ m _ rfl HO.out _ (w.heap.size + 1) 0 1 1 (fun _ => 1) rfl HX.out (by omega) (Below.size HE2.out) ?_)
  intro v3 w3 k2 k3
  rw [byts_append] at k2
  obtain ⟨ya, yg, yc, rfl, -, -, -, hyB⟩ := owns_seg k2
  have HB := hide hyB.toBSeg
  have HE3 : Hid (Ext w w3) := hide (Below.trans HE2.out k3)
  have Hs3 := hide (Hs.out.of_all HE3.out)
  have Hmk : Hid (catF (fun _ => 0) m (fun _ => 1) = mkF n) := by unfold Hid mkF; rw [Hm.out]
  rw [Hmk.out] at HB
  have HN : Hid (m + 1 = n) := by have := Hm.out; unfold Hid; omega
  clear k2 k3 hyB HO HX HE2 hmk
  go_wp2_with fail
  refine (bytesEqual_any a b off n cap f ya yg 0 (m + 1) yc (mkF n) w3 Hs3.out HB.out HY.out (fun i _ => mkF_range _ _)).mono ?_
  rintro e w4 ⟨rfl, hw⟩
  subst hw
  rw [show (n == m + 1 && alike f (mkF n) n) = alike f (mkF n) n by rw [HN.out]; simp]
  go_wp2
  go_ret
  exact ⟨rfl, HE3.out⟩

end Go.Proofs.Ytjkojofpkeglpab
