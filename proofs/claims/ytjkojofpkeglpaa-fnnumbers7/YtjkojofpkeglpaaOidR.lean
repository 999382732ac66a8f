/- Walks: readOidNumbers of the program. -/
import Derived.Test.YtjkojofpkeglpaaOidP
import Derived.Test.YtjkojofpkeglpaaICat
import Derived.Test.YtjkojofpkeglpaaEqB
import Derived.Test.YtjkojofpkeglpaaBits
namespace Go.Proofs.Ytjkojofpkeglpaa
set_option linter.unusedVariables false
set_option linter.unusedSimpArgs false
open Go.RowKit

theorem andNot_more {x : Int} (h0 : 0 ≤ x) (h1 : x < 256) : bits .andNot .u8 x 128 = x % 128 := by
  have h : ∀ n : Nat, n < 256 → bits .andNot .u8 (n : Int) 128 = (n : Int) % 128 := by decide +kernel
  obtain ⟨n, rfl⟩ := Int.eq_ofNat_of_zero_le h0
  exact h n (by omega)
theorem and_more {x : Int} (h0 : 0 ≤ x) (h1 : x < 256) : bits .and .u8 x 128 = if x < 128 then 0 else 128 := by
  have h : ∀ n : Nat, n < 256 → bits .and .u8 (n : Int) 128 = if (n : Int) < 128 then 0 else 128 := by decide +kernel
  obtain ⟨n, rfl⟩ := Int.eq_ofNat_of_zero_le h0
  exact h n (by omega)
theorem or7 (a b : Int) (ha : 0 ≤ a) (ha' : a ≤ 36028797018963967) (hb : 0 ≤ b) (hb' : b < 128) : bits .or .i64 (a * 128) b = a * 128 + b := by
  show IntKind.i64.wrap ((BitVec.ofInt 64 (a * 128) ||| BitVec.ofInt 64 b).toNat : Int) = _
  obtain ⟨B, rfl⟩ := Int.eq_ofNat_of_zero_le hb
  have e1 : (a * 128 % 18446744073709551616).toNat = 2 ^ 7 * a.toNat := by omega
  have e2 : ((B : Int) % 18446744073709551616).toNat = B := by omega
  rw [BitVec.toNat_or, ofInt64, ofInt64, e1, e2, ← Nat.two_pow_add_eq_or_of_lt (by omega), IntKind.wrap_i64]
  omega

theorem seg_one (w : World) (x : Int) : Seg (w.alloc (.cells #[.int .i64 x] 3)) (some ⟨w.heap.size, 0, none⟩) w.heap.size 0 1 (fun _ => x) := ⟨fun _ => rfl, fun i hi => by
    have := Blk.alloc w [.int .i64 x] 3
    have e : i = 0 := by omega
    subst e
    exact (this 0 _ rfl).1⟩

theorem updN_own {w : World} {base : Nat} {v : Value} {c : Nat} {F : Nat → Int} {a : Int} (h : w.ownsRow base 3 1 v (c + 1) (ints (catF F c (fun _ => a)) (c + 1))) : w.ownsRow base 3 1 v (c + 1) (ints (updN F c a) (c + 1)) :=
  iowns_congr h (fun i hi => by
    unfold catF updN
    by_cases e : i = c
    · rw [if_neg (by omega), if_pos e]
    · rw [if_pos (by omega), if_neg e])

set_option maxHeartbeats 1600000 in
set_option maxRecDepth 100000 in
theorem readOidNumbers_any (a : Option Addr) (b off n cap : Nat) (f : Nat → Int) (w : World) (hn : n ≤ 1048576) (hs : BSeg w a b off n f) (hy : ∀ i, i < n → 0 ≤ f i ∧ f i < 256) :
    Calls Try.prog 43 #[.slice a n cap] w fun e w' => GivesRI w (pst f n).cnt (pst f n).F e w' := by
  have Hs := hide hs
  have Hy := hide hy
  clear hs hy
  have HO := hide (World.ownsRow_made (base := w.heap.size) (e := 3) (size := 1) w #[] 0 (Nat.le_refl _) (by simp) rfl)
  have HE := hide (Ext.alloc w (.cells #[] 3))
  go_enter Try.func43, Try.ntmps43
  go_wp2
  rename_i K hK
  have HK := hide hK
  clear hK
  go_loopw [3, 4, 10] (fun v x i wr => ∃ p : Nat, p ≤ n ∧ i = .int .i64 (p : Int) ∧ (pst f p).stop = false ∧ x = .int .i64 (pst f p).acc ∧ wr.ownsRow w.heap.size 3 1 v (pst f p).cnt (ints (pst f p).F (pst f p).cnt) ∧ Ext w wr) (fun _ _ i _ => n - (intOf i).toNat)
  case atStart => exact ⟨0, by omega, rfl, rfl, rfl, HO.out, HE.out⟩
  case round =>
    clear HO HE
    obtain ⟨p, hp, rfl, hst, rfl, hO, hE⟩ := hrel
    have HO := hide hO
    have HE := hide hE
    have Hst := hide hst
    clear hO hE hst
    obtain ⟨g1, g2, g3⟩ := pst_good Hy.out p hp
    have g4 := g3 Hst.out
    clear g3
    by_cases hlt : p < n
    · have hpn : (p : Int) < n := by omega
      obtain rfl := Hs.out.at' (by omega)
      have hc := Hs.out.cell p hlt
      have hc2 : wr.cell? ⟨b, off + p, none⟩ = some (.int .u8 (f p)) := by
        rw [World.cell?_of_block (a := ⟨b, off + p, none⟩) (Below.block HE.out b (World.block_lt_of_cell? _ _ hc))]; exact hc
      obtain ⟨y0, y1⟩ := Hy.out p hlt
      have HP : Hid (pst f (p + 1) = pStep (pst f p) (f p)) := rfl
      have HQ := hide (fun h => pst_stop (f := f) (q := p + 1) h n (by omega))
      clear hc
      obtain ⟨s, hsE⟩ : ∃ s, pst f p = s := ⟨_, rfl⟩
      rw [hsE] at HO Hst g1 g2 g4 HP ⊢
      have HsE := hide hsE
      clear hsE
      obtain ⟨c, F, acc, stop⟩ := s
      simp only at HO Hst g1 g2 g4 ⊢
      obtain ⟨x, hx⟩ : ∃ x, f p = x := ⟨_, rfl⟩
      rw [hx] at hc2 y0 y1 HP
      have Hx := hide hx
      clear hx
      obtain ⟨A, hA⟩ : ∃ A, acc * 128 + x % 128 = A := ⟨_, rfl⟩
      have b1 : bits .andNot .u8 x 128 = x % 128 := andNot_more y0 y1
      have b2 : bits .or .i64 (acc * 128) (x % 128) = A := by rw [← hA]; exact or7 _ _ g1 (by omega) (by omega) (by omega)
      have b3 : 0 ≤ acc * 128 := by omega
      have b4 : acc * 128 ≤ 128000000000 := by omega
      have b5 : 0 ≤ x % 128 := by omega
      have b6 : x % 128 < 128 := by omega
      have b7 : IntKind.i64.wrap (x % 128) = x % 128 := by rw [IntKind.wrap_i64]; omega
      obtain ⟨va, vg, vc, rfl, hvg, -, -, -⟩ := iowns_seg HO.out
      have Hvg := hide hvg
      have HAA := hide hA
      have hst : stop = false := Hst.out
      subst hst
      have HPs : Hid (pst f (p + 1) = if 1000000000 < A ∨ c = 12 then ⟨c, F, A, true⟩ else if x < 128 then ⟨c + 1, updN F c A, 0, false⟩ else ⟨c, F, A, false⟩) := by
        unfold Hid
        rw [HP.out]
        unfold pStep
        simp only [hA]
        rfl
      clear HP hvg hA
      have BRK (h : 1000000000 < A ∨ c = 12) : Hid ((pst f n).cnt = c ∧ (pst f n).F = F) := by
        have e : pst f (p + 1) = ⟨c, F, A, true⟩ := by rw [HPs.out, if_pos h]
        have := HQ.out (by rw [e])
        unfold Hid
        rw [this, e]
        exact ⟨rfl, rfl⟩
      by_cases z0 : 1000000000 < A
      · have HBR := BRK (.inl z0)
        clear BRK
        go_wp2
        apply HK.out
        clear HK
        go_wp2
        go_ret
        rw [HBR.out.1, HBR.out.2]
        exact ⟨_, rfl, HO.out, HE.out⟩
      by_cases z1 : c = 12
      · have HBR := BRK (.inr z1)
        clear BRK
        have z2 : ((c : Int) == 12) = true := by simp; omega
        have Z1 := hide z1
        clear z1
        go_wp2
        apply HK.out
        clear HK
        go_wp2
        go_ret
        rw [HBR.out.1, HBR.out.2]
        exact ⟨_, rfl, HO.out, HE.out⟩
      have z2 : ((c : Int) == 12) = false := by simp; omega
      clear BRK
      by_cases z3 : x < 128
      · have b8 : bits .and .u8 x 128 = 0 := by rw [and_more y0 y1, if_pos z3]
        have HN : Hid (pst f (p + 1) = ⟨c + 1, updN F c A, 0, false⟩) := by
          unfold Hid; rw [HPs.out, if_neg (by omega), if_pos z3]
        have HX := hide (seg_one wr A)
        have HO2 := hide (HO.out.alloc (.cells #[.int .i64 A] 3))
        have Hsz := hide (Below.size HE.out)
        clear HPs
        go_wp2_with (at_builtin; refine wpList_append_is rfl _ _ rfl w.heap.size _ c (ints F c) rfl HO2.out _ wr.heap.size 0 1 1 (fun _ => A) rfl HX.out (by omega) (by have := Hsz.out; simp; omega) ?_)
        intro v' w1 h2 h3
        rw [intz_append] at h2
        have H2 := hide (updN_own h2)
        have H3 : Hid (Ext w w1) := hide (Below.trans (Ext.trans HE.out (Ext.alloc _ _)) h3)
        clear h2 h3 HO HO2 HX
        go_wp2
        go_roundw
        case rel => exact ⟨p + 1, by omega, by go_num, by rw [HN.out], by rw [HN.out], by rw [HN.out]; exact H2.out, H3.out⟩
        case measure => simp [intOf]; omega
      · have b8 : bits .and .u8 x 128 = 128 := by rw [and_more y0 y1, if_neg z3]
        have HN : Hid (pst f (p + 1) = ⟨c, F, A, false⟩) := by
          unfold Hid; rw [HPs.out, if_neg (by omega), if_neg z3]
        clear HPs
        go_wp2
        go_roundw
        case rel => exact ⟨p + 1, by omega, by go_num, by rw [HN.out], by rw [HN.out], by rw [HN.out]; exact HO.out, HE.out⟩
        case measure => simp [intOf]; omega
    · obtain rfl : p = n := by omega
      go_wp2
      apply HK.out
      clear HK
      go_wp2
      go_ret
      exact ⟨_, rfl, HO.out, HE.out⟩

end Go.Proofs.Ytjkojofpkeglpaa
