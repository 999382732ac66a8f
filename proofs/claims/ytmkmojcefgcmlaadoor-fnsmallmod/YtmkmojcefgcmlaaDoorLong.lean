/- Walks: the program's divideByDigit and divideLong. -/
import Derived.Test.YtmkmojcefgcmlaaDoorMost
import Derived.Test.YtmkmojcefgcmlaaDoorMuls
namespace Go.Proofs.YtmkmojcefgcmlaaDoor
set_option linter.unusedVariables false
open Go.RowKit

/-- The call hands back two canonical lists of those values, in new memory, and in two places. -/
def GivesTwo (w : World) (x y : Int) (e : Ending) (w' : World) : Prop :=
  ∃ a1 g1 cap1 n1 f1 a2 g2 cap2 n2 f2, e = .returned (.tuple #[.slice a1 n1 cap1, .slice a2 n2 cap2]) ∧ n1 ≤ 1048576 ∧ n2 ≤ 1048576 ∧ Canon n1 f1 ∧ val f1 n1 = x ∧ Canon n2 f2 ∧ val f2 n2 = y ∧
    w.heap.size ≤ g1 ∧ w.heap.size ≤ g2 ∧ (0 < n1 → 0 < n2 → g1 ≠ g2) ∧ Own w' a1 g1 0 n1 f1 ∧ Own w' a2 g2 0 n2 f2 ∧ Below w.heap.size w w'

/-- In mid-division by a digit: the places from k on are done. -/
structure ByDig (w wr : World) (f : Nat → Int) (n k : Nat) (d r : Int) (q : Nat → Int) : Prop where
  own : Own wr (some ⟨w.heap.size, 0, none⟩) w.heap.size 0 n q
  digs : Digs q n
  low : ∀ j, j < k → q j = 0
  r0 : 0 ≤ r
  r1 : r < d
  val : val (fun j => q (k + j)) (n - k) * d + r = val (fun j => f (k + j)) (n - k)
  below : Below w.heap.size w wr

theorem byDig_step {w wr : World} {f : Nat → Int} {n k : Nat} {d r x : Int} {q : Nat → Int} (h : ByDig w wr f n (k + 1) d r q) (hk : k < n) (hd : 0 < d) (hx : x = r * 65536 + f k) (f0 : 0 ≤ f k) (f1 : f k ≤ 65535) :
    ByDig w (wr.setCell ⟨w.heap.size, k, none⟩ (.int .i64 (x / d))) f n k d (x % d) (upd q k (x / d)) := by
  have r0 := h.r0
  have r1 := h.r1
  have hx0 : 0 ≤ x := by omega
  have q0 := Int.ediv_nonneg hx0 (Int.le_of_lt hd)
  have q1 : x / d < 65536 := Int.ediv_lt_of_lt_mul hd (by omega)
  refine ⟨h.own.set0 hk _, upd_digs h.digs q0 (by omega), fun j hj => by rw [upd_other (by omega)]; exact h.low j (by omega), Int.emod_nonneg _ (by omega), Int.emod_lt_of_pos _ hd, ?_, h.below.setCell (Nat.le_refl _) _⟩
  have e := h.val
  rw [← step_top f hk, ← step_top (upd q k (x / d)) hk, ← e, upd_same]
  rw [val_congr (f := fun j => upd q k (x / d) (k + 1 + j)) (g := fun j => q (k + 1 + j)) (fun i _ => upd_other (by omega))]
  have em := Int.emod_add_mul_ediv x d
  generalize Proofs.YtmkmojcefgcmlaaDoor.val (fun j => q (k + 1 + j)) (n - (k + 1)) = V at *
  generalize x / d = Q at *
  generalize x % d = R at *
  grind

set_option maxHeartbeats 1600000 in
theorem divideByDigit_any (a : Option Addr) (b off n cap : Nat) (f : Nat → Int) (d : Int) (w : World) (hs : Seg w a b off n f) (hn : n ≤ 4096) (hf : Digs f n) (hd0 : 0 < d) (hd1 : d ≤ 65535) :
    Calls Tryd.prog 47 #[.slice a n cap, .int .i64 d] w fun e w' => GivesTwo w (val f n / d) (val f n % d) e w' := by
  have hmk := run_make_row' (P := Tryd.prog) 27 3 (.int .i64 0) 8 Tryd.underlying27 Tryd.info3 rfl .i64 .i64 n (by omega) (by omega)
  have hdnz : (d == 0) = false := by simp; omega
  go_enter Tryd.func47, Tryd.ntmps47
  go_wp2
  clear hmk
  go_loopw [7, 8] (fun sr si wr => ∃ (k : Nat) (r : Int) (q : Nat → Int), k ≤ n ∧ si = .int .i64 ((k : Int) - 1) ∧ sr = .int .i64 r ∧ ByDig w wr f n k d r q) (fun _ si _ => (intOf si + 1).toNat)
  case atStart =>
    refine ⟨n, 0, fun _ => 0, Nat.le_refl _, by go_num, rfl, Own.of_row (World.rowIs_made w _ n 3) (Nat.le_refl _), fun i _ => by omega, fun _ _ => rfl, by omega, hd0, ?_, (Below.refl _ _).alloc (Nat.le_refl _) _⟩
    rw [Nat.sub_self]; simp [val]
  case round =>
    obtain ⟨k, r, q, hk, rfl, rfl, hI⟩ := hrel
    by_cases h0 : k = 0
    · subst h0
      have hV : val q n * d + r = val f n := by
        have := hI.val
        rw [Nat.sub_zero, val_congr (f := fun j => q (0 + j)) (g := q) (fun i _ => by rw [Nat.zero_add]), val_congr (f := fun j => f (0 + j)) (g := f) (fun i _ => by rw [Nat.zero_add])] at this
        exact this
      have r0 := hI.r0
      have r1 := hI.r1
      have HQ : Hid (val q n = val f n / d) := by
        show _ = _
        rw [← hV, Int.add_comm, Int.add_mul_ediv_right _ _ (by omega), Int.ediv_eq_zero_of_lt r0 r1]; omega
      have HR : Hid (r = val f n % d) := by
        show _ = _
        rw [← hV, Int.add_comm, Int.add_mul_emod_self_right, Int.emod_eq_of_lt r0 r1]
      have hO := hI.own
      have hD := hI.digs
      have hB := hI.below
      clear hI hV
      go_wp2_with fail
      refine (withoutNoughts_any _ w.heap.size 0 n _ q _ hO.toSeg (by omega) (by omega) (by omega)).mono ?_
      rintro e w' ⟨m, rfl, hmn, hz, hl, hw⟩
      obtain rfl := hw.symm
      have hrow : (wr.alloc (.cells #[.int .i64 r] 3)).rowIs wr.heap.size 3 1 (fun _ => .int .i64 r) := World.rowIs_alloc wr #[.int .i64 r] 3 (fun _ => .int .i64 r) (fun i hi => by
        have : i = 0 := by simp at hi; omega
        subst this; rfl)
      have hB2 := hB.alloc hB.size (.cells #[.int .i64 r] 3)
      have hO2 := hO.of_all ((Below.refl wr.heap.size wr).alloc (Nat.le_refl _) (.cells #[.int .i64 r] 3))
      have hlt : 0 < n → w.heap.size < wr.heap.size := fun h => hO.lt h
      have hge := hB.size
      clear hO hB
      go_wp2_with fail
      refine (withoutNoughts_any _ wr.heap.size 0 1 _ (fun _ => r) _ (Seg.of_row hrow (Nat.le_refl _)) (by omega) (by omega) (by omega)).mono ?_
      rintro e w' ⟨m2, rfl, hmn2, hzz, hll, hw⟩
      obtain rfl := hw.symm
      go_wp2
      go_ret2
      refine ⟨_, w.heap.size, m, m, q, _, wr.heap.size, m2, m2, fun _ => r, rfl, by omega, by omega, ⟨hD.mono hmn, hl⟩, (val_noughts hmn hz).trans HQ.out, ⟨fun i _ => by omega, hll⟩, ?_, Nat.le_refl _, hge, fun h1 h2 => by have := hlt (by omega); omega, hO2.cut hmn, Own.of_row hrow hmn2, hB2⟩
      rw [val_noughts hmn2 hzz]
      simpa [val, pw] using HR.out
    · obtain ⟨m, rfl⟩ : ∃ m, k = m + 1 := ⟨k - 1, by omega⟩
      obtain rfl := hs.at' (by omega)
      have hc := (hs.of_all hI.below).cell m (by omega)
      have hmn : (m : Int) < (n : Int) := by omega
      obtain ⟨f0, f1⟩ := hf m (by omega)
      obtain ⟨hc1, hz1⟩ := hI.own.cell0 (show m < n by omega)
      have r0 := hI.r0
      have r1 := hI.r1
      have ho := or_low r (f m) r0 (by omega) f0 f1
      have hN := byDig_step (x := r * 65536 + f m) hI (by omega) hd0 rfl f0 f1
      have hx0 : 0 ≤ r * 65536 + f m := by omega
      have hx1 : r * 65536 + f m ≤ 4295032831 := by omega
      clear hI
      go_wp2
      go_roundw
      case rel => exact ⟨m, _, _, by omega, by go_num, rfl, hN⟩
      case measure => simp [intOf]

/-- In mid-division: the places of the quotient from k on are done. -/
structure Longing (w wr : World) (f h : Nat → Int) (n n2 M go k : Nat) (r q : Nat → Int) : Prop where
  rest : Own wr (some ⟨w.heap.size, 0, none⟩) w.heap.size 0 (n + 1) r
  often : Own wr (some ⟨go, 0, none⟩) go 0 M q
  rdigs : Digs r (n + 1)
  qdigs : Digs q M
  low : ∀ j, j < k → q j = 0
  val : val q M * val h n2 + val r (n + 1) = val f n
  lt : Proofs.YtmkmojcefgcmlaaDoor.val r (n + 1) < Proofs.YtmkmojcefgcmlaaDoor.val h n2 * pw k
  below : Below w.heap.size w wr
  gt : w.heap.size < go
  size : go < wr.heap.size

/-- A piece of a list, cut out of its row. -/
theorem Own.piece {w : World} {a : Option Addr} {g n i m : Nat} {f : Nat → Int} (h : Own w a g 0 n f) (hi : i + m ≤ n) : Own w (some ⟨g, i, none⟩) g i m (fun j => f (i + j)) :=
  ⟨⟨fun _ => rfl, fun j hj => by have := h.cell (i + j) (by omega); rw [Nat.zero_add] at this; exact this⟩, fun j hj => by have := h.free (i + j) (by omega); rw [Nat.zero_add] at this; exact this⟩

/-- The row, behind a change in one piece. -/
def over (f : Nat → Int) (i m : Nat) (p : Nat → Int) : Nat → Int := fun j => if i ≤ j ∧ j < i + m then p (j - i) else f j

theorem Own.joined {w w' : World} {a : Option Addr} {g n i m : Nat} {f p : Nat → Int} (h : Own w a g 0 n f) (hp : Own w' (some ⟨g, i, none⟩) g i m p) (hS : Spot g i m w w') : Own w' a g 0 n (over f i m p) := by
  refine ⟨⟨h.at', fun j hj => ?_⟩, fun j hj => by rw [hS.froz]; exact h.free j hj⟩
  rw [Nat.zero_add]
  by_cases e : i ≤ j ∧ j < i + m
  · have := hp.cell (j - i) (by omega)
    rw [show i + (j - i) = j by omega] at this
    rw [this, over, if_pos e]
  · have := h.cell j hj
    rw [Nat.zero_add] at this
    rw [hS.cells j (by omega), this, over, if_neg e]

theorem over_digs {f p : Nat → Int} {n i m : Nat} (hf : Digs f n) (hp : Digs p m) : Digs (over f i m p) n := by
  intro j hj
  unfold over
  by_cases e : i ≤ j ∧ j < i + m
  · rw [if_pos e]; exact hp _ (by omega)
  · rw [if_neg e]; exact hf j hj

/-- The value, behind a change in one piece, all above it being 0. -/
theorem val_over {f p : Nat → Int} {n i m : Nat} (hn : i + m ≤ n) (hz : ∀ j, i + m ≤ j → j < n → f j = 0) : val (over f i m p) n = val f i + val p m * pw i := by
  rw [← val_noughts (f := over f i m p) (m := i + m) hn (fun j h1 h2 => by unfold over; rw [if_neg (by omega)]; exact hz j h1 h2), val_split]
  rw [val_congr (f := over f i m p) (g := f) (fun j hj => by unfold over; rw [if_neg (by omega)])]
  rw [val_congr (f := fun j => over f i m p (i + j)) (g := p) (fun j hj => by unfold over; rw [if_pos (by omega), show i + j - i = j by omega])]

/-- What one step needs to know of the piece. -/
theorem long_piece {w wr : World} {f h r q : Nat → Int} {n n2 M go k : Nat} (hI : Longing w wr f h n n2 M go (k + 1) r q) (hh : Canon n2 h) (hk : k < M) (hM : M + n2 = n + 1) (h0 : 0 < n2) :
    (∀ j, k + (n2 + 1) ≤ j → j < n + 1 → r j = 0) ∧ val r (n + 1) = val r k + val (fun j => r (k + j)) (n2 + 1) * pw k ∧ val (fun j => r (k + j)) (n2 + 1) < 65536 * val h n2 := by
  have hb := val_bd hh.digs
  have p1 := pw_pos (k + 1)
  have lt := hI.lt
  have hz : ∀ j, k + (n2 + 1) ≤ j → j < n + 1 → r j = 0 := by
    refine val_high hI.rdigs (m := k + (n2 + 1)) ?_
    have e : pw (k + (n2 + 1)) = pw n2 * pw (k + 1) := by rw [← pw_add]; congr 1; omega
    have := Int.mul_lt_mul_of_pos_right hb.2 p1
    rw [e]; omega
  have hv : val r (n + 1) = val r k + val (fun j => r (k + j)) (n2 + 1) * pw k := by
    rw [← val_noughts (f := r) (m := k + (n2 + 1)) (by omega) hz, val_split]
  refine ⟨hz, hv, ?_⟩
  have pk := pw_pos k
  have bl := (val_bd (hI.rdigs.mono (show k ≤ n + 1 by omega))).1
  have e2 : val h n2 * pw (k + 1) = 65536 * val h n2 * pw k := by simp only [pw]; grind
  by_cases c : val (fun j => r (k + j)) (n2 + 1) < 65536 * val h n2
  · exact c
  · have := Int.mul_le_mul_of_nonneg_right (show 65536 * val h n2 ≤ val (fun j => r (k + j)) (n2 + 1) by omega) (Int.le_of_lt pk)
    omega

/-- One step of long division. -/
theorem long_step {w wr w1 : World} {f h r q p : Nat → Int} {n n2 M go k : Nat} {Q : Int} (hI : Longing w wr f h n n2 M go (k + 1) r q) (hh : Canon n2 h) (hk : k < M) (hM : M + n2 = n + 1) (h0 : 0 < n2)
    (hQ : Q = val (fun j => r (k + j)) (n2 + 1) / val h n2) (hO : Own w1 (some ⟨w.heap.size, k, none⟩) w.heap.size k (n2 + 1) p) (hD : Digs p (n2 + 1)) (hV : val p (n2 + 1) = val (fun j => r (k + j)) (n2 + 1) % val h n2)
    (hS : Spot w.heap.size k (n2 + 1) wr w1) :
    Longing w (w1.setCell ⟨go, k, none⟩ (.int .i64 Q)) f h n n2 M go k (over r k (n2 + 1) p) (upd q k Q) := by
  obtain ⟨hz, hv, hlt⟩ := long_piece hI hh hk hM h0
  have hb := canon_pos hh h0
  have va := (val_bd (f := fun j => r (k + j)) (n := n2 + 1) (fun i hi => hI.rdigs (k + i) (by omega))).1
  obtain ⟨q0, q1, q2, q3, q4⟩ := quo_facts hb va hlt
  rw [← hQ] at q0 q1 q2 q3 q4
  rw [q4] at hV
  have hov := val_over (f := r) (p := p) (n := n + 1) (i := k) (m := n2 + 1) (by omega) hz
  have gt := hI.gt
  have hO1 : Own (w1.setCell ⟨go, k, none⟩ (.int .i64 Q)) (some ⟨w.heap.size, 0, none⟩) w.heap.size 0 (n + 1) (over r k (n2 + 1) p) := by
    have := hI.rest.joined hO hS
    exact this.touch ((Touch.refl go w1).set k _) (fun _ => by omega)
  have hO2 : Own (w1.setCell ⟨go, k, none⟩ (.int .i64 Q)) (some ⟨go, 0, none⟩) go 0 M (upd q k Q) :=
    (hI.often.touch hS.toTouch (fun _ => by omega)).set0 hk _
  have pk := pw_pos k
  have bl := val_bd (hI.rdigs.mono (show k ≤ n + 1 by omega))
  refine ⟨hO1, hO2, over_digs hI.rdigs hD, upd_digs hI.qdigs q0 q1, fun j hj => by rw [upd_other (by omega)]; exact hI.low j (by omega), ?_, ?_, (below_touch hI.below hS.toTouch (Nat.le_refl _)).setCell (by show w.heap.size ≤ go; omega) _, gt, ?_⟩
  · have e := hI.val
    rw [hov, hV, val_upd hk, hI.low k (by omega)]
    generalize Proofs.YtmkmojcefgcmlaaDoor.val (fun j => r (k + j)) (n2 + 1) = V at *
    grind
  · rw [hov, hV]
    have m := Int.mul_le_mul_of_nonneg_right (show Proofs.YtmkmojcefgcmlaaDoor.val (fun j => r (k + j)) (n2 + 1) - Q * Proofs.YtmkmojcefgcmlaaDoor.val h n2 + 1 ≤ Proofs.YtmkmojcefgcmlaaDoor.val h n2 by omega) (Int.le_of_lt pk)
    rw [Int.add_mul, Int.one_mul] at m
    omega
  · have := hI.size
    have := hS.size
    simp [World.setCell]
    omega

/-- The beginning: nothing is done. -/
theorem long_start {w wr : World} {f h : Nat → Int} {n n2 M go : Nat} (hf : Digs f n) (hh : Canon n2 h) (hM : M + n2 = n + 1) (h0 : 0 < n2) (hR : Own wr (some ⟨w.heap.size, 0, none⟩) w.heap.size 0 (n + 1) (ext n f))
    (hQ : Own wr (some ⟨go, 0, none⟩) go 0 M (fun _ => 0)) (hb : Below w.heap.size w wr) (gt : w.heap.size < go) (size : go < wr.heap.size) : Longing w wr f h n n2 M go M (ext n f) (fun _ => 0) := by
  refine ⟨hR, hQ, ext_digs hf _, fun i _ => by omega, fun _ _ => rfl, ?_, ?_, hb, gt, size⟩
  · have : ∀ m, Proofs.YtmkmojcefgcmlaaDoor.val (fun _ => 0) m = 0 := fun m => by induction m with
      | zero => rfl
      | succ m ih => simp [Proofs.YtmkmojcefgcmlaaDoor.val, ih]
    rw [this, val_ext (Nat.le_succ n)]; omega
  · rw [val_ext (Nat.le_succ n)]
    obtain ⟨c, rfl⟩ : ∃ c, n2 = c + 1 := ⟨n2 - 1, by omega⟩
    have a := (val_bd hf).2
    have b := Int.mul_le_mul_of_nonneg_right hh.low (Int.le_of_lt (pw_pos M))
    rw [← pw_add, show c + M = n by omega] at b
    omega

set_option maxHeartbeats 1600000 in
theorem divideLong_any (a : Option Addr) (b off n cap : Nat) (f : Nat → Int) (a2 : Option Addr) (b2 off2 n2 cap2 : Nat) (h : Nat → Int) (w : World) (hs : Seg w a b off n f) (hs2 : Seg w a2 b2 off2 n2 h)
    (hn : n ≤ 4096) (hn2 : 2 ≤ n2) (hle : n2 ≤ n) (hf : Digs f n) (hh : Canon n2 h) :
    Calls Tryd.prog 48 #[.slice a n cap, .slice a2 n2 cap2] w fun e w' => GivesTwo w (val f n / val h n2) (val f n % val h n2) e w' := by
  obtain ⟨M, hM⟩ : ∃ M : Nat, M + n2 = n + 1 := ⟨n + 1 - n2, by omega⟩
  have hMi : (n : Int) - (n2 : Int) + 1 = (M : Int) := by omega
  have HM : Hid (M + n2 = n + 1) := hM
  have hM1 : M ≤ 4096 := by omega
  have hmk := run_make_row' (P := Tryd.prog) 27 3 (.int .i64 0) 8 Tryd.underlying27 Tryd.info3 rfl .i64 .i64 M (by omega) (by omega)
  have hb2 : b2 < w.heap.size := hs2.lt (by omega)
  clear hM
  go_enter Tryd.func48, Tryd.ntmps48
  go_wp2_with fail
  refine (digitsCopy_int a b off n cap f (n + 1) _ _ (by omega) hs (by omega) (by omega)).mono ?_
  rintro e w1 ⟨rfl, hO1, hB1⟩
  have hL := long_start (go := w1.heap.size) hf hh HM.out (by omega) (hO1.of_all ((Below.refl w1.heap.size w1).alloc (Nat.le_refl _) (.cells (madeCells #[.int .i64 0] M) 3))) (Own.of_row (World.rowIs_made w1 _ M 3) (Nat.le_refl _)) (hB1.alloc hB1.size _) (hO1.lt (by omega)) (by simp)
  clear hO1 hB1
  go_wp2
  clear hmk
  go_loopw [8] (fun si wr => ∃ (k : Nat) (r q : Nat → Int), k ≤ M ∧ si = .int .i64 ((k : Int) - 1) ∧ Longing w wr f h n n2 M w1.heap.size k r q) (fun si _ => (intOf si + 1).toNat)
  case atStart => exact ⟨M, _, _, Nat.le_refl _, by go_num, hL⟩
  case round =>
    clear hL
    obtain ⟨k, r, q, hk, rfl, hI⟩ := hrel
    by_cases h0 : k = 0
    · subst h0
      have hV := hI.val
      have hlt := hI.lt
      have r0 := (val_bd hI.rdigs).1
      have HQ : Hid (val q M = val f n / val h n2) := by
        show _ = _
        rw [← hV, Int.add_comm, Int.add_mul_ediv_right _ _ (by simp [pw] at hlt; omega), Int.ediv_eq_zero_of_lt r0 (by simpa [pw] using hlt)]; omega
      have HR : Hid (val r (n + 1) = val f n % val h n2) := by
        show _ = _
        rw [← hV, Int.add_comm, Int.add_mul_emod_self_right, Int.emod_eq_of_lt r0 (by simpa [pw] using hlt)]
      have hO := hI.rest
      have hP := hI.often
      have hDr := hI.rdigs
      have hDq := hI.qdigs
      have hB := hI.below
      have gt := hI.gt
      clear hI hV hlt r0
      go_wp2_with fail
      refine (withoutNoughts_any _ w1.heap.size 0 M _ q _ hP.toSeg (by omega) (by omega) (by omega)).mono ?_
      rintro e w' ⟨m, rfl, hmn, hz, hl, hw⟩
      obtain rfl := hw.symm
      go_wp2_with fail
      refine (withoutNoughts_any _ w.heap.size 0 (n + 1) _ r _ hO.toSeg (by omega) (by omega) (by omega)).mono ?_
      rintro e w' ⟨m2, rfl, hmn2, hzz, hll, hw⟩
      obtain rfl := hw.symm
      go_wp2
      go_ret2
      exact ⟨_, w1.heap.size, m, m, q, _, w.heap.size, m2, m2, r, rfl, by omega, by omega, ⟨hDq.mono hmn, hl⟩, (val_noughts hmn hz).trans HQ.out, ⟨hDr.mono hmn2, hll⟩, (val_noughts hmn2 hzz).trans HR.out, by omega, Nat.le_refl _, fun _ _ => by omega, hP.cut hmn, hO.cut hmn2, hB⟩
    · obtain ⟨m, rfl⟩ : ∃ m, k = m + 1 := ⟨k - 1, by omega⟩
      have hmM : (m : Int) < (M : Int) := by omega
      have hpc := hI.rest.piece (i := m) (m := n2 + 1) (by have := HM.out; omega)
      obtain ⟨hz, hv, hlt⟩ := long_piece hI hh (by omega) HM.out (by omega)
      have hdp : Digs (fun j => r (m + j)) (n2 + 1) := fun i hi => hI.rdigs (m + i) (by have := HM.out; omega)
      have hend : m + n2 + 1 ≤ n + 1 := by have := HM.out; omega
      have hend' : (m : Int) + (n2 : Int) + 1 ≤ (n : Int) + 1 := by omega
      have t1 := hs2.of_all hI.below
      clear hz hv
      go_wp2_with fail
      rw [show m + n2 + 1 - m = n2 + 1 by omega]
      have gt := hI.gt
      refine (takeMost_any _ w.heap.size m n2 _ (fun j => r (m + j)) a2 b2 off2 cap2 h _ hpc t1 (by omega) hn2 hdp hh (by omega) hlt).mono ?_
      rintro e w2 ⟨p, rfl, hO2, hD2, hV2, hS2⟩
      obtain ⟨hc1, hz1⟩ := (hI.often.touch hS2.toTouch (fun _ => by omega)).cell0 (show m < M by omega)
      have hN := long_step hI hh (by omega) HM.out (by omega) rfl hO2 hD2 hV2 hS2
      generalize val (fun j => r (m + j)) (n2 + 1) / val h n2 = Q at *
      clear hI hO2 hD2 hV2 hS2 hpc hdp t1 hlt
      go_wp2
      go_roundw
      case rel => exact ⟨m, _, _, by omega, by go_num, hN⟩
      case measure => simp [intOf]

end Go.Proofs.YtmkmojcefgcmlaaDoor
