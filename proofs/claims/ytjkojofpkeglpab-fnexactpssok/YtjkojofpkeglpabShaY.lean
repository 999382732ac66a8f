/- Walks: the program's Sha and Short. -/
import Derived.Test.YtjkojofpkeglpabShaW
import Derived.Test.YtjkojofpkeglpabShaX
namespace Go.Proofs.Ytjkojofpkeglpab
set_option linter.unusedVariables false
set_option linter.unusedSimpArgs false
open Go.RowKit

theorem catF_zero (f g : Nat → Int) : catF f 0 g = g := by
  funext i
  unfold catF
  rw [if_neg (by omega), Nat.sub_zero]

theorem strOk_first : StrOk firstV 0 0 := ⟨fun i hi => by have := firstV_bound i hi; omega, by omega, by omega, by omega⟩

theorem bseg_nil (w : World) (a : Option Addr) (b off : Nat) (f : Nat → Int) : BSeg w a b off 0 f := ⟨fun h => absurd h (Nat.lt_irrefl _), fun i hi => absurd hi (Nat.not_lt_zero _)⟩

theorem feed_first (da : Option Addr) (db doff m dcap : Nat) (fd : Nat → Int) (w : World) (hm : m ≤ 20000) (hd : BSeg w da db doff m fd) (hdy : ∀ i, i < m → 0 ≤ fd i ∧ fd i < 256) :
    Calls Try.prog 47 #[.agg #[.int .i64 (firstV 0), .int .i64 (firstV 1), .int .i64 (firstV 2), .int .i64 (firstV 3), .int .i64 (firstV 4), .int .i64 (firstV 5), .int .i64 (firstV 6), .int .i64 (firstV 7), .slice none 0 0, .int .i64 0], .slice da m dcap] w fun e w' => ∃ a2 g c2, e = .returned (.tuple #[.agg #[.int .i64 (blocksV firstV fd (m / 64) 0 % 4294967296), .int .i64 (blocksV firstV fd (m / 64) 1 % 4294967296), .int .i64 (blocksV firstV fd (m / 64) 2 % 4294967296), .int .i64 (blocksV firstV fd (m / 64) 3 % 4294967296), .int .i64 (blocksV firstV fd (m / 64) 4 % 4294967296), .int .i64 (blocksV firstV fd (m / 64) 5 % 4294967296), .int .i64 (blocksV firstV fd (m / 64) 6 % 4294967296), .int .i64 (blocksV firstV fd (m / 64) 7 % 4294967296), .slice a2 (m % 64) c2, .int .i64 m], .bool true]) ∧ BSeg w' a2 g 0 (m % 64) (fun i => fd (64 * (m / 64) + i)) ∧ Ext w w' := by
  refine (feed_yes firstV none 0 0 0 0 (fun _ => 0) 0 da db doff m dcap fd w strOk_first (by omega) (bseg_nil _ _ _ _ _) hd (fun i hi => absurd hi (Nat.not_lt_zero _)) hdy).mono ?_
  rintro e w' ⟨v, rfl, hO, hE⟩
  rw [Nat.zero_add, catF_zero] at hO
  obtain ⟨a2, g, c2, rfl, -, -, -, hB⟩ := owns_seg hO
  refine ⟨a2, g, c2, ?_, hB.toBSeg, hE⟩
  rw [Nat.zero_add, catF_zero, Int.zero_add]

set_option maxHeartbeats 3200000 in
set_option maxRecDepth 100000 in
theorem sha_yes (da : Option Addr) (db doff m dcap : Nat) (fd : Nat → Int) (w : World) (hm : m ≤ 20000) (hd : BSeg w da db doff m fd) (hdy : ∀ i, i < m → 0 ≤ fd i ∧ fd i < 256) :
    Calls Try.prog 13 #[.slice da m dcap] w fun e w' => GivesR w 32 (shaF fd m) e w' := by
  have Hd := hide hd
  have Hy := hide hdy
  clear hd hdy
  go_enter Try.func13, Try.ntmps13
  go_wp2_with fail
  refine (firstStream_any _).mono ?_
  rintro e w1 ⟨rfl, h1⟩
  go_wp2_with fail
  refine (feed_first da db doff m dcap fd w1 hm (Hd.out.of_all h1) Hy.out).mono ?_
  rintro e w2 ⟨a2, g, c2, rfl, hB, h2⟩
  obtain ⟨u, hu⟩ : ∃ u : Nat → Int, u = fun i => blocksV firstV fd (m / 64) i % 4294967296 := ⟨_, rfl⟩
  have HB := hide hB
  have HE := hide (h1.trans h2)
  have HDg : Hid (∀ w, BSeg w a2 g 0 (m % 64) (fun i => fd (64 * (m / 64) + i)) → Calls Try.prog 49 #[.agg #[.int .i64 (u 0), .int .i64 (u 1), .int .i64 (u 2), .int .i64 (u 3), .int .i64 (u 4), .int .i64 (u 5), .int .i64 (u 6), .int .i64 (u 7), .slice a2 (m % 64) c2, .int .i64 (m : Int)]] w fun e w' => GivesR w 32 (shaF fd m) e w') := hide (fun w hb => by
    have := digest_yes u a2 g 0 (m % 64) c2 _ m w ⟨fun i hi => by rw [hu]; simp only; omega, by omega, by omega, by omega⟩ hb (fun i hi => Hy.out _ (by omega))
    unfold shaF
    rw [← hu]
    exact this)
  replace hu : ∀ i, blocksV firstV fd (m / 64) i % 4294967296 = u i := fun i => by rw [hu]
  rw [hu 0, hu 1, hu 2, hu 3, hu 4, hu 5, hu 6, hu 7]
  generalize (fun i => fd (64 * (m / 64) + i)) = fr at *
  obtain ⟨L, hL⟩ : ∃ L, m % 64 = L := ⟨_, rfl⟩
  rw [hL] at HB HDg ⊢
  clear hL hu hB h1 h2 Hd Hy
  go_wp2_with fail
  refine (HDg.out _ (HB.out.of_all (Ext.alloc _ _))).mono ?_
  rintro e w3 ⟨v, rfl, hO, h3⟩
  have HO := hide (owns_mono hO (Nat.le_trans (Below.size HE.out) (Below.size (Ext.alloc _ _))))
  have HE3 : Hid (Ext w w3) := hide ((HE.out.trans (Ext.alloc _ _)).trans h3)
  clear hO h3 HDg HB HE
  go_wp2
  go_ret
  exact ⟨_, rfl, HO.out, HE3.out⟩

set_option maxHeartbeats 3200000 in
set_option maxRecDepth 100000 in
theorem sha_no (da : Option Addr) (db doff m dcap : Nat) (fd : Nat → Int) (w : World) (hm : ¬ m ≤ 20000) (hmm : m ≤ 1048576) (hd : BSeg w da db doff m fd) :
    Calls Try.prog 13 #[.slice da m dcap] w fun e w' => GivesR w 0 (shaF fd m) e w' := by
  have Hd := hide hd
  clear hd
  go_enter Try.func13, Try.ntmps13
  go_wp2_with fail
  refine (firstStream_any _).mono ?_
  rintro e w1 ⟨rfl, h1⟩
  go_wp2_with fail
  refine (feed_long firstV none 0 0 0 0 (fun _ => 0) 0 da db doff m dcap fd w1 strOk_first (by omega) (bseg_nil _ _ _ _ _) (Hd.out.of_all h1) (by omega) hmm).mono ?_
  rintro e w2 ⟨v, rfl, hO, h2⟩
  obtain ⟨a2, g, c2, rfl, -, -, -, -⟩ := owns_seg hO
  have HE := hide (h1.trans h2)
  clear hO h1 h2 Hd
  go_wp2
  go_ret
  refine ⟨_, rfl, ?_, (HE.out.trans (Ext.alloc _ _)).trans (Ext.alloc _ _)⟩
  have hO := World.ownsRow_made (base := w.heap.size) (e := 5) (size := 1) (w2.alloc (.cells #[.int .i64 (firstV 0), .int .i64 (firstV 1), .int .i64 (firstV 2), .int .i64 (firstV 3), .int .i64 (firstV 4), .int .i64 (firstV 5), .int .i64 (firstV 6), .int .i64 (firstV 7), .slice a2 0 c2, .int .i64 0] 62)) #[] 0 (Nat.le_trans (Below.size HE.out) (Below.size (Ext.alloc _ _))) (by unfold maxLen; omega) rfl
  rw [World.size_alloc] at hO
  exact hO

/-- How many bytes Sha tells. -/
def shaN (m : Nat) : Nat := if m ≤ 20000 then 32 else 0
theorem sha_any (da : Option Addr) (db doff m dcap : Nat) (fd : Nat → Int) (w : World) (hmm : m ≤ 1048576) (hd : BSeg w da db doff m fd) (hdy : ∀ i, i < m → 0 ≤ fd i ∧ fd i < 256) :
    Calls Try.prog 13 #[.slice da m dcap] w fun e w' => GivesR w (shaN m) (shaF fd m) e w' := by
  unfold shaN
  by_cases h : m ≤ 20000
  · rw [if_pos h]; exact sha_yes da db doff m dcap fd w h hd hdy
  · rw [if_neg h]; exact sha_no da db doff m dcap fd w h hmm hd

/-- A new list of bytes, one's own. -/
def GivesBs (w : World) (M : Nat) (F : Nat → Int) (e : Ending) (w' : World) : Prop :=
  ∃ a g cap, e = .returned (.slice a M cap) ∧ w.heap.size ≤ g ∧ BOwn w' a g 0 M F ∧ Below w.heap.size w w'
theorem GivesR.bs {w w' : World} {n : Nat} {f : Nat → Int} {e : Ending} (h : GivesR w n f e w') : GivesBs w n f e w' := by
  obtain ⟨v, rfl, hO, hE⟩ := h
  obtain ⟨a, g, cap, rfl, hg, -, -, hB⟩ := owns_seg hO
  exact ⟨a, g, cap, rfl, hg, hB, hE⟩

/-- How many bytes Short tells. -/
def shortN (m : Nat) : Nat := if m ≤ 20000 then 8 else 0

set_option maxHeartbeats 3200000 in
set_option maxRecDepth 100000 in
theorem short_any (da : Option Addr) (db doff m dcap : Nat) (fd : Nat → Int) (w : World) (hmm : m ≤ 1048576) (hd : BSeg w da db doff m fd) (hdy : ∀ i, i < m → 0 ≤ fd i ∧ fd i < 256) :
    Calls Try.prog 14 #[.slice da m dcap] w fun e w' => GivesBs w (shortN m) (shaF fd m) e w' := by
  have HS := hide (sha_any da db doff m dcap fd w hmm hd hdy)
  clear hd hdy
  unfold shaN at HS
  unfold shortN
  by_cases h : m ≤ 20000
  · rw [if_pos h] at HS ⊢
    go_enter Try.func14, Try.ntmps14
    go_wp2_with fail
    refine HS.out.mono ?_
    rintro e w1 ⟨v, rfl, hO, hE⟩
    obtain ⟨a, g, cap, rfl, hg, hc, hb, hB⟩ := owns_seg hO
    obtain rfl := hB.at' (by omega)
    have HB := hide (hB.cut (show 8 ≤ 32 by omega))
    have HE := hide hE
    have Hg := hide hg
    have c8 : (8 : Int) ≤ cap := by omega
    clear hO hB hE hg HS
    go_wp2
    go_ret
    exact ⟨_, g, _, rfl, Hg.out, HB.out, HE.out⟩
  · rw [if_neg h] at HS ⊢
    go_enter Try.func14, Try.ntmps14
    go_wp2_with fail
    refine HS.out.mono ?_
    rintro e w1 ⟨v, rfl, hO, hE⟩
    obtain ⟨a, g, cap, rfl, hg, hc, hb, hB⟩ := owns_seg hO
    have HE := hide hE
    have Hg := hide hg
    have c8 : (0 : Int) ≤ cap := by omega
    clear hO hB hE hg HS
    cases a with
    | none =>
      go_wp2
      go_ret
      exact ⟨_, g, _, rfl, Hg.out, BOwn.nil _ _ _ _ _, HE.out⟩
    | some ad =>
      go_wp2
      go_ret
      exact ⟨_, g, _, rfl, Hg.out, BOwn.nil _ _ _ _ _, HE.out⟩

end Go.Proofs.Ytjkojofpkeglpab
