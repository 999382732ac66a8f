/- Walks: the laws' own helpers over lists of items: their sizes. -/
import Derived.Test.YtboaiojapgiedaaBLists
import Derived.Test.YtboaiojapgiedaaBlk
import Derived.Lib.QuietBelow
import Derived.Deep.DeepBigQuietO
namespace Go.Proofs.Ytboaiojapgiedaa
set_option linter.unusedVariables false
set_option linter.unusedSimpArgs false
open Go.RowKit

/-- An item as it lies in memory: two numbers and a list of bytes. -/
structure It where
  tag : Int
  kid : Int
  ad : Option Addr
  blk : Nat
  off : Nat
  len : Nat
  cap : Nat
  f : Nat → Int

def itV (x : It) : Value := .agg #[.int .i64 x.tag, .slice x.ad x.len x.cap, .int .i64 x.kid]

/-- A list of n items. -/
structure ISeg (w : World) (a : Option Addr) (b off n : Nat) (x : Nat → It) : Prop where
  at' : 0 < n → a = some ⟨b, off, none⟩
  c0 : ∀ i, i < n → w.cell? ⟨b, off + i * 3, none⟩ = some (.int .i64 (x i).tag)
  c1 : ∀ i, i < n → w.cell? ⟨b, off + i * 3 + 1, none⟩ = some (.slice (x i).ad (x i).len (x i).cap)
  c2 : ∀ i, i < n → w.cell? ⟨b, off + i * 3 + 2, none⟩ = some (.int .i64 (x i).kid)
  body : ∀ i, i < n → BSeg w (x i).ad (x i).blk (x i).off (x i).len (x i).f
  small : ∀ i, i < n → (x i).len ≤ 9223372036854775807

theorem ISeg.lt {w : World} {a : Option Addr} {b off n : Nat} {x : Nat → It} (h : ISeg w a b off n x) (hn : 0 < n) : b < w.heap.size := World.block_lt_of_cell? _ _ (h.c0 0 hn)
theorem ISeg.of_all {w w' : World} {a : Option Addr} {b off n : Nat} {x : Nat → It} (h : ISeg w a b off n x) (e : Ext w w') : ISeg w' a b off n x :=
  ⟨h.at', fun i hi => (e.cell (p := ⟨b, off + i * 3, none⟩) (h.lt (by omega))).trans (h.c0 i hi), fun i hi => (e.cell (p := ⟨b, off + i * 3 + 1, none⟩) (h.lt (by omega))).trans (h.c1 i hi), fun i hi => (e.cell (p := ⟨b, off + i * 3 + 2, none⟩) (h.lt (by omega))).trans (h.c2 i hi), fun i hi => (h.body i hi).of_all e, h.small⟩

/-- What is left of a size. -/
def szL (l : Int) (n : Nat) : Int := if l < n then -1 else l - n

theorem szByteS_any (a : Option Addr) (n cap : Nat) (l : Int) (w : World) (l0 : 0 ≤ l) (l1 : l ≤ 1048576) (hn : n ≤ 9223372036854775807) :
    Calls Try.prog 55 #[.slice a n cap, .int .i64 l] w fun e w' => e = .returned (.int .i64 (szL l n)) ∧ w' = w := by
  unfold szL
  by_cases h : l < n
  · rw [if_pos h]
    have h1 : l - (n : Int) < 0 := by omega
    have h2 : -9223372036854775808 ≤ l - (n : Int) := by omega
    go_enter Try.func55, Try.ntmps55
    go_wp2
    go_ret
    exact ⟨rfl, rfl⟩
  · rw [if_neg h]
    have h1 : ¬ l - (n : Int) < 0 := by omega
    go_enter Try.func55, Try.ntmps55
    go_wp2
    go_ret
    exact ⟨rfl, rfl⟩

theorem szL_range {l : Int} {n : Nat} (h : l ≤ 1048576) : -1 ≤ szL l n ∧ szL l n ≤ 1048576 := by unfold szL; split <;> omega

set_option maxHeartbeats 800000 in
theorem szItem_any (x : It) (l : Int) (w : World) (l0 : 0 ≤ l) (l1 : l ≤ 1048576) (hn : x.len ≤ 9223372036854775807) :
    Calls Try.prog 24 #[itV x, .int .i64 l] w fun e w' => e = .returned (.int .i64 (szL l x.len)) ∧ Ext w w' := by
  obtain ⟨B0, hE, -⟩ := box1 w [.int .i64 x.tag, .slice x.ad x.len x.cap, .int .i64 x.kid] 45 (Ext.refl (w.alloc (.cells #[.int .i64 x.tag, .slice x.ad x.len x.cap, .int .i64 x.kid] 45)))
  have c1 := (B0 1 _ rfl).1
  have HE : Hid (Ext w (w.alloc (.cells #[.int .i64 x.tag, .slice x.ad x.len x.cap, .int .i64 x.kid] 45))) := hide (Ext.alloc _ _)
  have HS := hide (szByteS_any x.ad x.len x.cap l (w.alloc (.cells #[.int .i64 x.tag, .slice x.ad x.len x.cap, .int .i64 x.kid] 45)) l0 l1 hn)
  have hr := szL_range (l := l) (n := x.len) l1
  obtain ⟨z, hz⟩ : ∃ z, szL l x.len = z := ⟨_, rfl⟩
  rw [hz] at HS hr
  have Hz := hide hz
  clear hz B0 hE
  show Calls Try.prog 24 #[.agg #[.int .i64 x.tag, .slice x.ad x.len x.cap, .int .i64 x.kid], .int .i64 l] w _
  go_enter Try.func24, Try.ntmps24
  go_wp2_with fail
  refine HS.out.mono ?_
  rintro e w1 ⟨rfl, hw⟩
  subst hw
  by_cases h : z < 0
  · have e1 : z = -1 := by omega
    have E1 := hide e1
    clear e1
    go_wp2
    go_ret
    exact ⟨by rw [Hz.out, E1.out]; rfl, HE.out⟩
  · go_wp2
    go_ret
    exact ⟨by rw [Hz.out]; rfl, HE.out⟩


/-- What is left of a size behind the first k of a list of items. -/
def szI (x : Nat → It) : Nat → Int → Int
  | 0, l => l
  | k + 1, l => if szI x k l < 0 then -1 else szL (szI x k l) (x k).len

theorem szI_range {x : Nat → It} {l : Int} (h0 : -1 ≤ l) (h : l ≤ 1048576) (k : Nat) : -1 ≤ szI x k l ∧ szI x k l ≤ 1048576 := by
  induction k with
  | zero => exact ⟨h0, h⟩
  | succ k ih => unfold szI; split
                 · omega
                 · exact szL_range ih.2
theorem szI_neg {x : Nat → It} {l : Int} {k : Nat} (h : szI x k l < 0) (n : Nat) (hk : k < n) : szI x n l = -1 := by
  induction n with
  | zero => omega
  | succ n ih => by_cases e : k = n
                 · subst e; unfold szI; rw [if_pos h]
                 · unfold szI; rw [if_pos (by rw [ih (by omega)]; omega)]

set_option maxHeartbeats 1600000 in
theorem szItemS_any (a : Option Addr) (b off n cap : Nat) (x : Nat → It) (l : Int) (w : World) (hs : ISeg w a b off n x) (l0 : 0 ≤ l) (l1 : l ≤ 1048576) (hn : n ≤ 9223372036854775807) :
    Calls Try.prog 6 #[.slice a n cap, .int .i64 l] w fun e w' => e = .returned (.int .i64 (if l < n then -1 else if szI x n (l - n) < 0 then -1 else szI x n (l - n))) ∧ Ext w w' := by
  by_cases h : l < n
  · rw [if_pos h]
    have h1 : l - (n : Int) < 0 := by omega
    have h2 : -9223372036854775808 ≤ l - (n : Int) := by omega
    go_enter Try.func6, Try.ntmps6
    go_wp2
    go_ret
    exact ⟨rfl, Ext.refl _⟩
  · rw [if_neg h]
    have h1 : ¬ l - (n : Int) < 0 := by omega
    obtain ⟨F, hF⟩ : ∃ F, (if szI x n (l - n) < 0 then -1 else szI x n (l - n)) = F := ⟨_, rfl⟩
    rw [hF]
    have HF := hide hF
    clear hF
    go_enter Try.func6, Try.ntmps6
    go_wp2
    go_loopw [1, 5] (fun c i wr => ∃ k : Nat, k ≤ n ∧ i = .int .i64 k ∧ 0 ≤ szI x k (l - n) ∧ c = .int .i64 (szI x k (l - n)) ∧ Ext w wr) (fun _ i _ => n - (intOf i).toNat)
    case atStart => exact ⟨0, Nat.zero_le _, rfl, by show 0 ≤ l - (n : Int); omega, rfl, Ext.refl _⟩
    case round =>
      obtain ⟨k, hk, rfl, hz0, rfl, hE⟩ := hrel
      have hr := szI_range (x := x) (l := l - n) (by omega) (by omega) k
      obtain ⟨z, hz⟩ : ∃ z, szI x k (l - n) = z := ⟨_, rfl⟩
      rw [hz] at hz0 hr ⊢
      have Hz := hide hz
      clear hz
      by_cases hlt : k < n
      · obtain rfl := hs.at' (by omega)
        have hs' := hs.of_all hE
        have c0 := hs'.c0 k hlt
        have c1 := hs'.c1 k hlt
        have c2 := hs'.c2 k hlt
        have hsm := hs.small k hlt
        have HC := hide (szItem_any (x k) z wr hz0 hr.2 hsm)
        have HS := hide hs
        have HE := hide hE
        clear hs hs' hE hsm
        have hkn : (k : Int) < (n : Int) := by omega
        go_wp2_with fail
        refine HC.out.mono ?_
        rintro e w1 ⟨rfl, hE1⟩
        have hr1 := szL_range (l := z) (n := (x k).len) hr.2
        have hz1 : szI x (k + 1) (l - n) = szL z (x k).len := by
          show (if szI x k (l - n) < 0 then -1 else szL (szI x k (l - n)) (x k).len) = _
          rw [Hz.out, if_neg (by omega)]
        obtain ⟨y, hy⟩ : ∃ y, szL z (x k).len = y := ⟨_, rfl⟩
        rw [hy] at hr1 hz1 ⊢
        have Hy := hide hz1
        have HE1 := hide hE1
        clear hy hz1 hE1 HC
        by_cases hneg : y < 0
        · go_wp2
          go_ret
          have e1 : szI x n (l - n) < 0 := by
            by_cases hkn1 : k + 1 = n
            · have := Hy.out; rw [hkn1] at this; rw [this]; exact hneg
            · rw [szI_neg (k := k + 1) (by rw [Hy.out]; exact hneg) n (by omega)]; omega
          exact ⟨by rw [← HF.out, if_pos e1]; rfl, HE.out.trans HE1.out⟩
        · go_wp2
          go_roundw
          case rel => exact ⟨k + 1, by omega, by go_num, by rw [Hy.out]; omega, by rw [Hy.out], HE.out.trans HE1.out⟩
          case measure => simp [intOf]; omega
      · obtain rfl : k = n := by omega
        go_wp2
        go_ret
        have e1 : ¬ szI x k (l - k) < 0 := by rw [Hz.out]; omega
        exact ⟨by rw [← HF.out, if_neg e1, Hz.out]; rfl, hE⟩


theorem ext_drewN (w : World) (q : Nat) : Ext w (w.drewN q) := ⟨rfl, rfl, rfl, Nat.le_refl _, fun _ _ => rfl⟩

def itEq (x y : It) : Bool := x.tag == y.tag && (x.len == y.len && alike x.f y.f x.len) && x.kid == y.kid

set_option maxHeartbeats 1600000 in
theorem eqItem_any (x y : It) (w : World) (hx : BSeg w x.ad x.blk x.off x.len x.f) (hy : BSeg w y.ad y.blk y.off y.len y.f) (hn : x.len ≤ 1048576) :
    Calls Try.prog 32 #[itV x, itV y] w fun e w' => e = .returned (.bool (itEq x y)) ∧ Ext w w' := by
  obtain ⟨V, hV⟩ : ∃ V, (w.alloc (.cells #[.int .i64 x.tag, .slice x.ad x.len x.cap, .int .i64 x.kid] 49)).alloc (.cells #[.int .i64 y.tag, .slice y.ad y.len y.cap, .int .i64 y.kid] 49) = V := ⟨_, rfl⟩
  obtain ⟨B1, B2, hE, -⟩ := box2 w [.int .i64 x.tag, .slice x.ad x.len x.cap, .int .i64 x.kid] [.int .i64 y.tag, .slice y.ad y.len y.cap, .int .i64 y.kid] 49 49 (w1 := V) (by rw [← hV]; exact Ext.refl _)
  have a0 := (B1 0 _ rfl).1
  have a1 := (B1 1 _ rfl).1
  have a2 := (B1 2 _ rfl).1
  have b0 := (B2 0 _ rfl).1
  have b1 := (B2 1 _ rfl).1
  have b2 := (B2 2 _ rfl).1
  have HC := hide (eqByteS_any x.ad x.blk x.off x.len x.cap x.f y.ad y.blk y.off y.len y.cap y.f V (hx.of_all hE) (hy.of_all hE) hn)
  have HE := hide hE
  clear B1 B2 hE hx hy
  obtain ⟨q, hq⟩ : ∃ q, (x.len == y.len && alike x.f y.f x.len) = q := ⟨_, rfl⟩
  have HQ : Hid (itEq x y = (x.tag == y.tag && q && x.kid == y.kid)) := hide (by unfold itEq; rw [hq])
  rw [hq] at HC
  clear hq
  show Calls Try.prog 32 #[.agg #[.int .i64 x.tag, .slice x.ad x.len x.cap, .int .i64 x.kid], .agg #[.int .i64 y.tag, .slice y.ad y.len y.cap, .int .i64 y.kid]] w _
  obtain ⟨F, hF⟩ : ∃ F, itEq x y = F := ⟨_, rfl⟩
  rw [hF] at HQ ⊢
  clear hF
  by_cases ht : x.tag = y.tag
  · have ht1 : (x.tag != y.tag) = false := by simp [ht]
    have Ht := hide ht
    clear ht
    go_enter Try.func32, Try.ntmps32
    go_wp2_with fail
    refine HC.out.mono ?_
    rintro e w1 ⟨rfl, d, rfl⟩
    cases q with
    | false =>
      go_wp2
      go_ret
      exact ⟨ret_bool (by rw [HQ.out]; simp), HE.out.trans (ext_drewN _ _)⟩
    | true =>
      by_cases hk : x.kid = y.kid
      · have hk1 : (x.kid != y.kid) = false := by simp [hk]
        have Hk := hide hk
        clear hk
        go_wp2
        go_ret
        exact ⟨ret_bool (by rw [HQ.out]; simp [Ht.out, Hk.out]), HE.out.trans (ext_drewN _ _)⟩
      · have hk1 : (x.kid != y.kid) = true := by simp [hk]
        go_wp2
        go_ret
        exact ⟨ret_bool (by rw [HQ.out]; simp [hk]), HE.out.trans (ext_drewN _ _)⟩
  · have ht1 : (x.tag != y.tag) = true := by simp [ht]
    go_enter Try.func32, Try.ntmps32
    go_wp2
    go_ret
    exact ⟨ret_bool (by rw [HQ.out]; simp [ht]), HE.out⟩


/-- The first n of two lists of items are alike. -/
def itsEq (x y : Nat → It) (n : Nat) : Bool := decide (∀ i, i < n → itEq (x i) (y i) = true)

theorem itsEq_yes {x y : Nat → It} {n : Nat} (h : ∀ i, i < n → itEq (x i) (y i) = true) : itsEq x y n = true := decide_eq_true h
theorem itsEq_no {x y : Nat → It} {n k : Nat} (hk : k < n) (h : itEq (x k) (y k) = false) : itsEq x y n = false := decide_eq_false (fun a => by rw [a k hk] at h; cases h)

set_option maxHeartbeats 1600000 in
theorem eqItemS_any (a : Option Addr) (b off n cap : Nat) (x : Nat → It) (a2 : Option Addr) (b2 off2 n2 cap2 : Nat) (y : Nat → It) (w : World) (hs : ISeg w a b off n x) (hs2 : ISeg w a2 b2 off2 n2 y) (hn : n ≤ 1048576) (hl : ∀ i, i < n → (x i).len ≤ 1048576) :
    Calls Try.prog 10 #[.slice a n cap, .slice a2 n2 cap2] w fun e w' => e = .returned (.bool (n == n2 && itsEq x y n)) ∧ Ext w w' := by
  by_cases hne : n = n2
  · subst hne
    obtain ⟨F, hF⟩ : ∃ F, (n == n && itsEq x y n) = F := ⟨_, rfl⟩
    have HF : Hid (F = itsEq x y n) := hide (by rw [← hF]; simp)
    rw [hF]
    clear hF
    go_enter Try.func10, Try.ntmps10
    go_wp2
    go_loopw [5] (fun i wr => ∃ k : Nat, k ≤ n ∧ i = .int .i64 k ∧ (∀ j, j < k → itEq (x j) (y j) = true) ∧ Ext w wr) (fun i _ => n - (intOf i).toNat)
    case atStart => exact ⟨0, Nat.zero_le _, rfl, fun j hj => absurd hj (Nat.not_lt_zero _), Ext.refl _⟩
    case round =>
      obtain ⟨k, hk, rfl, hd, hE⟩ := hrel
      have HD := hide hd
      clear hd
      by_cases hlt : k < n
      · obtain rfl := hs.at' (by omega)
        obtain rfl := hs2.at' (by omega)
        have hs' := hs.of_all hE
        have hs2' := hs2.of_all hE
        have c0 := hs'.c0 k hlt
        have c1 := hs'.c1 k hlt
        have c2 := hs'.c2 k hlt
        have d0 := hs2'.c0 k hlt
        have d1 := hs2'.c1 k hlt
        have d2 := hs2'.c2 k hlt
        obtain ⟨q, hq⟩ : ∃ q, itEq (x k) (y k) = q := ⟨_, rfl⟩
        have HC : Hid (∀ d os, Calls Try.prog 32 #[.agg #[.int .i64 (x k).tag, .slice (x k).ad (x k).len (x k).cap, .int .i64 (x k).kid], .agg #[.int .i64 (y k).tag, .slice (y k).ad (y k).len (y k).cap, .int .i64 (y k).kid]] (Sort.grow (redrawn wr d) os) fun e w'' => e = .returned (.bool q) ∧ ∃ p : Regrown, w'' = Sort.grow (redrawn wr p.d) p.os) := fun d os => by
          have := eqItem_any (x k) (y k) (Sort.grow (redrawn wr d) os) ((hs'.body k hlt).of_all (below_regrown wr d os)) ((hs2'.body k hlt).of_all (below_regrown wr d os)) (hl k hlt)
          rw [hq] at this
          exact Calls.regrown_of this
        have HE := hide hE
        clear hs hs' hs2 hs2' hE hl
        have hkn : (k : Int) < (n : Int) := by omega
        have Hq := hide hq
        clear hq
        have k0 := cell_regrown c0
        have k1 := cell_regrown c1
        have k2 := cell_regrown c2
        have k3 := cell_regrown d0
        have k4 := cell_regrown d1
        have k5 := cell_regrown d2
        go_wp2_with fail
        refine wp_region_quiet_below (by kernel_rfl) (by kernel_rfl) ?_
        repeat (first | go_big_quiet_step ((go_at_call 32; exact HC.out _ _)) | quiet_step ((go_at_call 32; exact HC.out _ _)))
        refine wpQuiet_nil ?_
        intro _ hw'
        obtain ⟨⟨dq, osq⟩, hw''⟩ := hw'
        subst hw''
        have HE1 : Hid (Ext wr (Sort.grow (redrawn wr dq) osq)) := hide (below_regrown wr dq osq)
        cases q with
        | true =>
          go_wp2
          go_roundw
          case rel => exact ⟨k + 1, by omega, by go_num, fun j hj => by
                        by_cases e : j = k
                        · subst e; exact Hq.out
                        · exact HD.out j (by omega), HE.out.trans HE1.out⟩
          case measure => simp [intOf]; omega
        | false =>
          go_wp2
          go_ret
          exact ⟨ret_bool (by rw [HF.out, itsEq_no hlt Hq.out]), HE.out.trans HE1.out⟩
      · obtain rfl : k = n := by omega
        go_wp2
        go_ret
        exact ⟨ret_bool (by rw [HF.out, itsEq_yes HD.out]), hE⟩
  · have hb : ((n : Int) != (n2 : Int)) = true := by simp; omega
    go_enter Try.func10, Try.ntmps10
    go_wp2
    go_ret
    exact ⟨ret_bool (by simp [hne]), Ext.refl _⟩

end Go.Proofs.Ytboaiojapgiedaa
