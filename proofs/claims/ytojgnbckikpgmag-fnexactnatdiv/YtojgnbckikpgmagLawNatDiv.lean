/- Proved: at every two lists of ints handed to it the law FnExactNatDiv answers true and leaves its arguments as they were: the program's NatDiv answers as the model's at every two lists of at most 1048576 ints each, writes into neither, and its answer owns its memory, behind another call too (beyond that length the law itself answers true at once). No condition. -/
import Derived.Test.YtojgnbckikpgmagRows
import Derived.WalkKit
import Derived.ProofKit
import Derived.OpenShut
import Derived.ShutString
import Derived.ChangeOld
import Derived.Below
import Derived.Test.YtojgnbckikpgmagNatDiv
import Derived.Test.YtojgnbckikpgmagLists
import Derived.Test.YtojgnbckikpgmagMarks
namespace Go.Proofs.Ytojgnbckikpgmag.fnExactNatDiv
open Go.ChangeShapes Go.WideShapes Go.ChangeAt Go.RowKit
open Go.ChangeMaps (open_string shut_string)
set_option linter.unusedVariables false

theorem own : ownKnob Try.prog.godebug = none := by kernel_rfl
theorem laidOut : laidOutB Try.prog = true := by kernel_rfl

/-- WHAT THE WALK IS TOLD OF A SLICE OF INTEGERS THAT CAME IN: it is nil; or it leads to a row of 'cap' cells, the numbers 'zs' (the first 'len' are its elements, the rest its spare room), each fitting its kind. -/
def IsRow (k : IntKind) (w : World) (a : Option Addr) (len cap : Nat) (zs : List Int) : Prop :=
  (a = none ∧ len = 0 ∧ cap = 0 ∧ zs = []) ∨
  ∃ x, a = some x ∧ len ≤ cap ∧ cap ≤ maxLen ∧ zs.length = cap ∧ (∀ i, i < zs.length → w.cell? (x.add i) = some (.int k (zs.getD i 0))) ∧ ∀ n ∈ zs, (Lit.int k n).wf = true

theorem IsRow.seg {w : World} {a : Option Addr} {len cap : Nat} {zs : List Int} (h : IsRow .i64 w a len cap zs) : ∃ b off, Seg w a b off len (fun i => zs.getD i 0) := by
  rcases h with ⟨rfl, rfl, rfl, rfl⟩ | ⟨x, rfl, hl, hm, hz, hcell, hwz⟩
  · exact ⟨0, 0, fun h => absurd h (Nat.lt_irrefl _), fun i hi => absurd hi (Nat.not_lt_zero _)⟩
  · obtain ⟨b, off, spot⟩ := x
    by_cases h0 : len = 0
    · subst h0
      exact ⟨0, 0, fun h => absurd h (Nat.lt_irrefl _), fun i hi => absurd hi (Nat.not_lt_zero _)⟩
    · have hspot : spot = none := by simpa [Addr.add] using World.cell?_spot (hcell 0 (by omega))
      subst hspot
      exact ⟨b, off, fun _ => rfl, fun i hi => by
        have h := hcell i (by omega)
        have e : Addr.add ⟨b, off, none⟩ i = ⟨b, off + i, none⟩ := by
          by_cases h0 : i = 0
          · subst h0; simp [Addr.add]
          · simp [Addr.add, h0]
        rwa [e] at h⟩


/-- The answer in one form for the law's walk. -/
def GivesD (w : World) (M1 : Nat) (F1 : Nat → Int) (M2 : Nat) (F2 : Nat → Int) (ok : Bool) (e : Ending) (w' : World) : Prop :=
  ∃ a1 g1 cap1 a2 g2 cap2, e = .returned (.tuple #[.slice a1 M1 cap1, .slice a2 M2 cap2, .bool ok]) ∧ w.heap.size ≤ g1 ∧ w.heap.size ≤ g2 ∧ g1 ≠ g2 ∧ Own w' a1 g1 0 M1 F1 ∧ Own w' a2 g2 0 M2 F2 ∧ Below w.heap.size w w'

theorem gives_apart {w w' : World} {M1 M2 : Nat} {F1 F2 : Nat → Int} {ok : Bool} {a1 a2 : Option Addr} {g1 g2 cap1 cap2 : Nat} (k1 : w.heap.size ≤ g1) (k2 : w.heap.size ≤ g2) (k3 : 0 < M1 → 0 < M2 → g1 ≠ g2) (k4 : Own w' a1 g1 0 M1 F1) (k5 : Own w' a2 g2 0 M2 F2) (k6 : Below w.heap.size w w') :
    GivesD w M1 F1 M2 F2 ok (.returned (.tuple #[.slice a1 M1 cap1, .slice a2 M2 cap2, .bool ok])) w' := by
  by_cases h1 : M1 = 0
  · subst h1
    exact ⟨a1, g2 + 1, cap1, a2, g2, cap2, rfl, by omega, k2, by omega, Own.nil _ _ _ _ _, k5, k6⟩
  · by_cases h2 : M2 = 0
    · subst h2
      exact ⟨a1, g1, cap1, a2, g1 + 1, cap2, rfl, k1, by omega, by omega, k4, Own.nil _ _ _ _ _, k6⟩
    · exact ⟨a1, g1, cap1, a2, g2, cap2, rfl, k1, k2, k3 (by omega) (by omega), k4, k5, k6⟩

theorem gives_to {w w' : World} {n n2 : Nat} {f g : Nat → Int} {e : Ending} {M1 M2 : Nat} {F1 F2 : Nat → Int} {ok : Bool} (hQ : IsDiv n f n2 g M1 F1 M2 F2 ok) (h : GivesDiv w n f n2 g e w') : GivesD w M1 F1 M2 F2 ok e w' := by
  obtain ⟨a1, g1, cap1, m1, G1, a2, g2, cap2, m2, G2, ok2, rfl, hm1, hm2, hN, k1, k2, k3, k4, k5, k6⟩ := h
  obtain rfl : ok2 = ok := hN.1.trans hQ.1.symm
  cases ok2 with
  | false =>
    obtain ⟨rfl, rfl⟩ := hN.2.1 rfl
    obtain ⟨rfl, rfl⟩ := hQ.2.1 rfl
    exact gives_apart k1 k2 k3 (Own.nil _ _ _ _ _) (Own.nil _ _ _ _ _) k6
  | true =>
    obtain ⟨p1, p2, p3, p4⟩ := hN.2.2 rfl
    obtain ⟨q1, q2, q3, q4⟩ := hQ.2.2 rfl
    obtain ⟨rfl, e1⟩ := canon_unique p1 q1 (p2.trans q2.symm)
    obtain ⟨rfl, e2⟩ := canon_unique p3 q3 (p4.trans q4.symm)
    exact gives_apart k1 k2 k3 (k4.congr e1) (k5.congr e2) k6

/-- A number below 65536 to the 64 has a canonical list. -/
theorem has_canon {x : Int} (h0 : 0 ≤ x) (h1 : x < pw 64) : ∃ (m : Nat) (F : Nat → Int), m ≤ 1048576 ∧ Canon m F ∧ val F m = x := by
  have key : ∀ (N : Nat) (F : Nat → Int), Digs F N → ∃ m, m ≤ N ∧ Canon m F ∧ val F m = val F N := by
    intro N F
    induction N with
    | zero => exact fun _ => ⟨0, Nat.le_refl _, ⟨fun i hi => absurd hi (Nat.not_lt_zero _), .inl rfl⟩, rfl⟩
    | succ N ih =>
      intro hD
      by_cases hz : F N = 0
      · obtain ⟨m, hm, hc, hv⟩ := ih (hD.mono (Nat.le_succ N))
        exact ⟨m, by omega, hc, by rw [hv]; simp [val, hz]⟩
      · exact ⟨N + 1, Nat.le_refl _, ⟨hD, .inr (by simpa using hz)⟩, rfl⟩
  obtain ⟨m, hm, hc, hv⟩ := key 64 (dgt x) (fun i _ => dgt_bd x i)
  refine ⟨m, dgt x, by omega, hc, ?_⟩
  have := val_dgt x 64
  rw [div_small h0 h1] at this
  rw [hv]
  omega

theorem div_is (n : Nat) (f : Nat → Int) (n2 : Nat) (g : Nat → Int) : ∃ (M1 : Nat) (F1 : Nat → Int) (M2 : Nat) (F2 : Nat → Int) (ok : Bool), M1 ≤ 1048576 ∧ M2 ≤ 1048576 ∧ IsDiv n f n2 g M1 F1 M2 F2 ok := by
  cases h : divB n f n2 g with
  | false => exact ⟨0, fun _ => 0, 0, fun _ => 0, false, by omega, by omega, h.symm, fun _ => ⟨rfl, rfl⟩, fun h => by simp at h⟩
  | true =>
    have h' := h
    simp only [divB, Bool.and_eq_true, Bool.not_eq_true', beq_eq_false_iff_ne] at h'
    obtain ⟨⟨h1, h2⟩, h3⟩ := h'
    have o1 := (natOk_iff n f).1 h1
    have o2 := (natOk_iff n2 g).1 h2
    have b1 := val_bd (f := f) (n := n) o1.1
    have b2 : 0 < val g n2 := canon_pos ⟨o2.1, o2.2.2⟩ (by omega)
    have p1 := pw_le o1.2.1
    have d0 := Int.ediv_nonneg b1.1 (Int.le_of_lt b2)
    have d1 := Int.ediv_le_self (val g n2) b1.1
    have m0 := Int.emod_nonneg (val f n) (show val g n2 ≠ 0 by omega)
    have m1 := Int.emod_lt_of_pos (val f n) b2
    have b3 := (val_bd (f := g) (n := n2) o2.1).2
    have p2 := pw_le o2.2.1
    obtain ⟨M1, F1, k1, k2, k3⟩ := has_canon d0 (by omega)
    obtain ⟨M2, F2, k4, k5, k6⟩ := has_canon m0 (by omega)
    exact ⟨M1, F1, M2, F2, true, k1, k4, h.symm, fun h => by simp at h, fun _ => ⟨k2, k3, k5, k6⟩⟩

set_option maxHeartbeats 8000000 in
theorem law (a : Option Addr) (b off n cap : Nat) (f : Nat → Int) (a2 : Option Addr) (b2 off2 n2 cap2 : Nat) (g : Nat → Int) (M1 : Nat) (F1 : Nat → Int) (M2 : Nat) (F2 : Nat → Int) (ok : Bool) (hM1 : M1 ≤ 1048576) (hM2 : M2 ≤ 1048576) (w : World) (hs : Seg w a b off n f) (hs2 : Seg w a2 b2 off2 n2 g) (hn : n ≤ 1048576) (hn2 : n2 ≤ 1048576)
    (Hsp : Hid (∀ (a : Option Addr) (b off cap : Nat) (a2 : Option Addr) (b2 off2 cap2 : Nat) (w : World), Seg w a b off n f → Seg w a2 b2 off2 n2 g → Calls Try.prog 21 #[.slice a n cap, .slice a2 n2 cap2] w fun e w' => GivesD w M1 F1 M2 F2 ok e w'))
    (Him : Hid (∀ (a : Option Addr) (b off cap : Nat) (a2 : Option Addr) (b2 off2 cap2 : Nat) (w : World), Seg w a b off n f → Seg w a2 b2 off2 n2 g → Calls Try.prog 22 #[.slice a n cap, .slice a2 n2 cap2] w fun e w' => GivesD w M1 F1 M2 F2 ok e w')) :
    Calls Try.prog 7 #[.slice a n cap, .slice a2 n2 cap2] w fun e w' => e = .returned (.bool true) ∧ Below w.heap.size w w' := by
  have hz : ¬ (1048576 : Int) < (n : Int) := by omega
  have hz2 : ¬ (1048576 : Int) < (n2 : Int) := by omega
  have hokk : (ok != ok) = false := by simp
  go_enter Try.func7, Try.ntmps7
  go_wp2_with fail
  refine (toIntS_any _ b off _ _ f _ hs hn).mono ?_
  rintro e w1 ⟨rfl, hz1, hr1, B1⟩
  clear hz1
  go_wp2_with fail
  refine (toIntS_any _ b2 off2 _ _ g _ (hs2.of_all B1) hn2).mono ?_
  rintro e w2 ⟨rfl, hz1, hr2, hb2⟩
  clear hz1
  have B2 := B1.trans (hb2.mono B1.size)
  go_wp2_with fail
  refine (Hsp.out _ w.heap.size 0 _ _ w1.heap.size 0 _ _ (Seg.of_row (rowIs_below hr1 hb2 hr1.lt) (Nat.le_refl _)) (Seg.of_row hr2 (Nat.le_refl _))).mono ?_
  rintro e w3 ⟨a3, g3, cap3, a4, g4, cap4, rfl, hg3, hg4, hne3, hO3, hO4, hb3⟩
  have B3 := B2.trans (hb3.mono B2.size)
  have lt3 : 0 < M1 → g3 < w3.heap.size := fun h => hO3.lt h
  have lt4 : 0 < M2 → g4 < w3.heap.size := fun h => hO4.lt h
  have s3 := hO3.toSeg
  have t3 := hO4.toSeg
  have ge4 : w.heap.size ≤ w3.heap.size := B3.size
  clear hr1 hr2 hb2 hb3 B2 hO3 hO4 hg3 hg4 hne3 B1
  go_wp2_with fail
  refine (toIntS_any _ b off _ _ f _ (hs.of_all B3) hn).mono ?_
  rintro e w4 ⟨rfl, hz1, hr4, hb4⟩
  have lt34 : w3.heap.size < w4.heap.size := by omega
  clear hz1
  have B4 := B3.trans (hb4.mono B3.size)
  have s4 := s3.of_all hb4
  have t4 := t3.of_all hb4
  have x4 : Own w4 (some ⟨w3.heap.size, 0, none⟩) w3.heap.size 0 n f := Own.of_row hr4 (Nat.le_refl _)
  clear hr4 hb4 s3 t3 B3
  go_wp2_with fail
  refine (toIntS_any _ b2 off2 _ _ g _ (hs2.of_all B4) hn2).mono ?_
  rintro e w5 ⟨rfl, hz1, hr5, hb5⟩
  have lt45 : w4.heap.size < w5.heap.size := by omega
  clear hz1
  have B5 := B4.trans (hb5.mono B4.size)
  have s5 := s4.of_all hb5
  have t5 := t4.of_all hb5
  have x5 := x4.of_all hb5
  have y5 : Own w5 (some ⟨w4.heap.size, 0, none⟩) w4.heap.size 0 n2 g := Own.of_row hr5 (Nat.le_refl _)
  clear hr5 hb5 s4 t4 x4 B4
  go_wp2_with fail
  refine (Him.out _ w3.heap.size 0 _ _ w4.heap.size 0 _ _ x5.toSeg y5.toSeg).mono ?_
  rintro e w6 ⟨a6, g6, cap6, a7, g7, cap7, rfl, hg6, hg7, hne, z6, u6, hb6⟩
  have B6 := B5.trans (hb6.mono B5.size)
  have s6 := s5.of_all hb6
  have t6 := t5.of_all hb6
  have x6 := x5.of_all hb6
  have y6 := y5.of_all hb6
  clear hb6 s5 t5 x5 y5 B5
  go_wp2_with fail
  refine (eqIntS_any a6 g6 0 M1 cap6 F1 a3 g3 0 M1 cap3 F1 _ z6.toSeg s6 hM1).mono ?_
  rintro e w11' ⟨rfl, q, rfl⟩
  rw [alike_refl]
  have D : Below w6.heap.size w6 (w6.drewN q) := below_drewN (Below.refl _ _) q
  have B11 : Below w.heap.size w (w6.drewN q) := below_drewN B6 q
  have s11 := s6.of_all D
  have t11 := t6.of_all D
  have x11 := x6.of_all D
  have y11 := y6.of_all D
  have z11 := z6.of_all D
  have u11 := u6.of_all D
  clear D B6 s6 t6 x6 y6 z6 u6
  generalize w6.drewN q = w11 at *
  go_wp2_with fail
  refine (eqIntS_any a7 g7 0 M2 cap7 F2 a4 g4 0 M2 cap4 F2 _ u11.toSeg t11 hM2).mono ?_
  rintro e w12' ⟨rfl, q, rfl⟩
  rw [alike_refl]
  have D : Below w11.heap.size w11 (w11.drewN q) := below_drewN (Below.refl _ _) q
  have B12 : Below w.heap.size w (w11.drewN q) := below_drewN B11 q
  have s12 := s11.of_all D
  have t12 := t11.of_all D
  have x12 := x11.of_all D
  have y12 := y11.of_all D
  have z12 := z11.of_all D
  have u12 := u11.of_all D
  clear D B11 s11 t11 x11 y11 z11 u11
  generalize w11.drewN q = w12 at *
  go_wp2_with fail
  refine (toIntS_any _ b off _ _ f _ (hs.of_all B12) hn).mono ?_
  rintro e w13 ⟨rfl, hz1, hr13, hb13⟩
  clear hz1
  have B13 := B12.trans (hb13.mono B12.size)
  have s13 := s12.of_all hb13
  have t13 := t12.of_all hb13
  have x13 := x12.of_all hb13
  have y13 := y12.of_all hb13
  have z13 := z12.of_all hb13
  have u13 := u12.of_all hb13
  clear s12 t12 x12 y12 z12 u12 B12
  go_wp2_with fail
  refine (eqIntS_any _ w3.heap.size 0 _ _ f _ w12.heap.size 0 _ _ f _ x13.toSeg (Seg.of_row hr13 (Nat.le_refl _)) hn).mono ?_
  rintro e w14' ⟨rfl, q, rfl⟩
  rw [alike_refl]
  have D : Below w13.heap.size w13 (w13.drewN q) := below_drewN (Below.refl _ _) q
  have B14 : Below w.heap.size w (w13.drewN q) := below_drewN B13 q
  have s14 := s13.of_all D
  have t14 := t13.of_all D
  have x14 := x13.of_all D
  have y14 := y13.of_all D
  have z14 := z13.of_all D
  have u14 := u13.of_all D
  clear D B13 s13 t13 x13 y13 z13 u13
  generalize w13.drewN q = w14 at *
  clear hr13 hb13
  go_wp2_with fail
  refine (toIntS_any _ b2 off2 _ _ g _ (hs2.of_all B14) hn2).mono ?_
  rintro e w15 ⟨rfl, hz1, hr15, hb15⟩
  clear hz1
  have B15 := B14.trans (hb15.mono B14.size)
  have s15 := s14.of_all hb15
  have t15 := t14.of_all hb15
  have x15 := x14.of_all hb15
  have y15 := y14.of_all hb15
  have z15 := z14.of_all hb15
  have u15 := u14.of_all hb15
  clear s14 t14 x14 y14 z14 u14 B14
  go_wp2_with fail
  refine (eqIntS_any _ w4.heap.size 0 _ _ g _ w14.heap.size 0 _ _ g _ y15.toSeg (Seg.of_row hr15 (Nat.le_refl _)) hn2).mono ?_
  rintro e w16' ⟨rfl, q, rfl⟩
  rw [alike_refl]
  have D : Below w15.heap.size w15 (w15.drewN q) := below_drewN (Below.refl _ _) q
  have B16 : Below w.heap.size w (w15.drewN q) := below_drewN B15 q
  have s16 := s15.of_all D
  have t16 := t15.of_all D
  have x16 := x15.of_all D
  have y16 := y15.of_all D
  have z16 := z15.of_all D
  have u16 := u15.of_all D
  clear D B15 s15 t15 x15 y15 z15 u15
  generalize w15.drewN q = w16 at *
  clear hr15 hb15
  go_wp2_with fail
  refine (markIntS_any _ w3.heap.size 0 n _ f 1 _ x16 hn (by omega) (by omega)).mono ?_
  rintro e w17 ⟨rfl, _, hT⟩
  have s17 := s16.touch hT (fun h => by have := lt3 h; omega)
  have t17 := t16.touch hT (fun h => by have := lt4 h; omega)
  have y17 := y16.touch hT (fun _ => by omega)
  have z17 := z16.touch hT (fun _ => by omega)
  have u17 := u16.touch hT (fun _ => by omega)
  have B17 := below_touch B16 hT ge4
  clear s16 t16 x16 y16 z16 u16 B16 hT
  go_wp2_with fail
  refine (markIntS_any _ w4.heap.size 0 n2 _ g _ _ y17 hn2 (by omega) (by omega)).mono ?_
  rintro e w18 ⟨rfl, _, hT⟩
  have s18 := s17.touch hT (fun h => by have := lt3 h; omega)
  have t18 := t17.touch hT (fun h => by have := lt4 h; omega)
  have z18 := z17.touch hT (fun _ => by omega)
  have u18 := u17.touch hT (fun _ => by omega)
  have B18 := below_touch B17 hT (by omega)
  clear s17 t17 y17 z17 u17 B17 hT
  have hk0 : ¬ (1 + (n : Int) + (n2 : Int) < 0) := by omega
  go_wp2_with fail
  refine (eqIntS_any a6 g6 0 M1 cap6 F1 a3 g3 0 M1 cap3 F1 _ z18.toSeg s18 hM1).mono ?_
  rintro e w19' ⟨rfl, q, rfl⟩
  rw [alike_refl]
  have D : Below w18.heap.size w18 (w18.drewN q) := below_drewN (Below.refl _ _) q
  have B19 : Below w.heap.size w (w18.drewN q) := below_drewN B18 q
  have s19 := s18.of_all D
  have t19 := t18.of_all D
  have z19 := z18.of_all D
  have u19 := u18.of_all D
  clear D B18 s18 t18 z18 u18
  generalize w18.drewN q = w19 at *
  go_wp2_with fail
  refine (eqIntS_any a7 g7 0 M2 cap7 F2 a4 g4 0 M2 cap4 F2 _ u19.toSeg t19 hM2).mono ?_
  rintro e w20' ⟨rfl, q, rfl⟩
  rw [alike_refl]
  have D : Below w19.heap.size w19 (w19.drewN q) := below_drewN (Below.refl _ _) q
  have B20 : Below w.heap.size w (w19.drewN q) := below_drewN B19 q
  have s20 := s19.of_all D
  have t20 := t19.of_all D
  have z20 := z19.of_all D
  have u20 := u19.of_all D
  clear D B19 s19 t19 z19 u19
  generalize w19.drewN q = w20 at *
  go_wp2_with fail
  refine (markIntS_any a6 g6 0 M1 cap6 F1 1 _ z20 hM1 (by omega) (by omega)).mono ?_
  rintro e w21 ⟨rfl, z21, hT⟩
  have s21 := s20.touch hT (fun h => by have := lt3 h; omega)
  have t21 := t20.touch hT (fun h => by have := lt4 h; omega)
  have u21 := u20.touch hT (fun _ => fun e => hne e.symm)
  have B21 := below_touch B20 hT (by omega)
  clear s20 t20 z20 u20 B20 hT
  go_wp2_with fail
  refine (markIntS_any a7 g7 0 M2 cap7 F2 _ _ u21 hM2 (by omega) (by omega)).mono ?_
  rintro e w22 ⟨rfl, u22, hT⟩
  have s22 := s21.touch hT (fun h => by have := lt3 h; omega)
  have t22 := t21.touch hT (fun h => by have := lt4 h; omega)
  have z22 := z21.touch hT (fun _ => hne)
  have B22 := below_touch B21 hT (by omega)
  clear s21 t21 z21 u21 B21 hT
  have hp1 : ¬ (1 + (M1 : Int) < 0) := by omega
  have hp2 : ¬ (1 + (M1 : Int) + (M2 : Int) < 0) := by omega
  go_wp2_with fail
  refine (heldIntS_any a6 g6 0 M1 cap6 1 _ z22.toSeg hM1 (by omega) (by omega)).mono ?_
  rintro e w23 ⟨rfl, hw⟩
  obtain rfl := hw.symm
  go_wp2_with fail
  refine (heldIntS_any a7 g7 0 M2 cap7 (1 + (M1 : Int)) _ u22.toSeg hM2 (by omega) (by omega)).mono ?_
  rintro e w23 ⟨rfl, hw⟩
  obtain rfl := hw.symm
  go_wp2_with fail
  refine (toIntS_any _ b off _ _ f _ (hs.of_all B22) hn).mono ?_
  rintro e w24 ⟨rfl, hz1, hr24, hb24⟩
  clear hz1
  have B24 := B22.trans (hb24.mono B22.size)
  have s24 := s22.of_all hb24
  have t24 := t22.of_all hb24
  have z24 := z22.of_all hb24
  have u24 := u22.of_all hb24
  clear hb24 s22 t22 z22 u22
  go_wp2_with fail
  refine (toIntS_any _ b2 off2 _ _ g _ (hs2.of_all B24) hn2).mono ?_
  rintro e w25 ⟨rfl, hz1, hr25, hb25⟩
  clear hz1
  have B25 := B24.trans (hb25.mono B24.size)
  have s25 := s24.of_all hb25
  have t25 := t24.of_all hb25
  have z25 := z24.of_all hb25
  have u25 := u24.of_all hb25
  have r25 := rowIs_below hr24 hb25 hr24.lt
  clear hb25 s24 t24 z24 u24
  go_wp2_with fail
  refine (Him.out _ w22.heap.size 0 _ _ w24.heap.size 0 _ _ (Seg.of_row r25 (Nat.le_refl _)) (Seg.of_row hr25 (Nat.le_refl _))).mono ?_
  rintro e w26 ⟨a26, g26, cap26, a27, g27, cap27, rfl, hg26, hg27, hne26, o26, v26, hb26⟩
  have B26 := B25.trans (hb26.mono B25.size)
  have s26 := s25.of_all hb26
  have t26 := t25.of_all hb26
  have z26 := z25.of_all hb26
  have u26 := u25.of_all hb26
  clear hb26 s25 t25 z25 u25 B25 B24 B22 r25 hr24 hr25
  go_wp2_with fail
  refine (eqIntS_any a26 g26 0 M1 cap26 F1 a3 g3 0 M1 cap3 F1 _ o26.toSeg s26 hM1).mono ?_
  rintro e w27' ⟨rfl, q, rfl⟩
  rw [alike_refl]
  have D : Below w26.heap.size w26 (w26.drewN q) := below_drewN (Below.refl _ _) q
  have B27 : Below w.heap.size w (w26.drewN q) := below_drewN B26 q
  have t27 := t26.of_all D
  have z27 := z26.of_all D
  have u27 := u26.of_all D
  have v27 := v26.of_all D
  clear D B26 s26 t26 z26 u26 v26 o26
  generalize w26.drewN q = w27 at *
  go_wp2_with fail
  refine (eqIntS_any a27 g27 0 M2 cap27 F2 a4 g4 0 M2 cap4 F2 _ v27.toSeg t27 hM2).mono ?_
  rintro e w28' ⟨rfl, q, rfl⟩
  rw [alike_refl]
  have D : Below w27.heap.size w27 (w27.drewN q) := below_drewN (Below.refl _ _) q
  have B28 : Below w.heap.size w (w27.drewN q) := below_drewN B27 q
  have z28 := z27.of_all D
  have u28 := u27.of_all D
  clear D B27 t27 z27 u27 v27
  generalize w27.drewN q = w28 at *
  go_wp2_with fail
  refine (heldIntS_any a6 g6 0 M1 cap6 1 _ z28.toSeg hM1 (by omega) (by omega)).mono ?_
  rintro e w29 ⟨rfl, hw⟩
  obtain rfl := hw.symm
  go_wp2_with fail
  refine (heldIntS_any a7 g7 0 M2 cap7 (1 + (M1 : Int)) _ u28.toSeg hM2 (by omega) (by omega)).mono ?_
  rintro e w29 ⟨rfl, hw⟩
  obtain rfl := hw.symm
  go_wp2
  go_ret
  exact ⟨rfl, B28⟩

theorem law_long (a : Option Addr) (n cap : Nat) (a2 : Option Addr) (n2 cap2 : Nat) (w : World) (hn : ¬ n ≤ 1048576) :
    Calls Try.prog 7 #[.slice a n cap, .slice a2 n2 cap2] w fun e w' => e = .returned (.bool true) ∧ Below w.heap.size w w' := by
  have hz : (1048576 : Int) < (n : Int) := by omega
  go_enter Try.func7, Try.ntmps7
  go_wp2
  go_ret
  exact ⟨rfl, Below.refl _ _⟩

theorem law_long2 (a : Option Addr) (n cap : Nat) (a2 : Option Addr) (n2 cap2 : Nat) (w : World) (hn : n ≤ 1048576) (hn2 : ¬ n2 ≤ 1048576) :
    Calls Try.prog 7 #[.slice a n cap, .slice a2 n2 cap2] w fun e w' => e = .returned (.bool true) ∧ Below w.heap.size w w' := by
  have hz : ¬ (1048576 : Int) < (n : Int) := by omega
  have hz2 : (1048576 : Int) < (n2 : Int) := by omega
  go_enter Try.func7, Try.ntmps7
  go_wp2
  go_ret
  exact ⟨rfl, Below.refl _ _⟩

theorem walk (a0 : Option Addr) (len0 cap0 : Nat) (z0 : List Int) (a1 : Option Addr) (len1 cap1 : Nat) (z1 : List Int) (w : World) (w0 : IsRow .i64 w a0 len0 cap0 z0) (w1 : IsRow .i64 w a1 len1 cap1 z1) :
    Calls Try.prog 7 #[.slice a0 len0 cap0, .slice a1 len1 cap1] w fun e w' => e = .returned (.bool true) ∧ Below w.heap.size w w' := by
  obtain ⟨b, off, hs⟩ := w0.seg
  obtain ⟨b2, off2, hs2⟩ := w1.seg
  by_cases hn : len0 ≤ 1048576
  · by_cases hn2 : len1 ≤ 1048576
    · obtain ⟨M1, F1, M2, F2, ok, hM1, hM2, hQ⟩ := div_is len0 (fun i => z0.getD i 0) len1 (fun i => z1.getD i 0)
      exact law a0 b off len0 cap0 _ a1 b2 off2 len1 cap1 _ M1 F1 M2 F2 ok hM1 hM2 w hs hs2 hn hn2 (fun a b off cap a2 b2 off2 cap2 w h h2 => (specNatDiv_any a b off len0 cap _ a2 b2 off2 len1 cap2 _ w h h2 hn hn2).mono fun e w' hG => gives_to hQ hG) (fun a b off cap a2 b2 off2 cap2 w h h2 => (implNatDiv_any a b off len0 cap _ a2 b2 off2 len1 cap2 _ w h h2 hn hn2).mono fun e w' hG => gives_to hQ hG)
    · exact law_long2 a0 len0 cap0 a1 len1 cap1 w hn hn2
  · exact law_long a0 len0 cap0 a1 len1 cap1 w hn

/-! ### THE ROW's STEP: WRITTEN OUT: LEAVE IT -/
set_option maxRecDepth 100000 in
theorem lifted (os : Os) (started : os.Started) (H : Type) (enc : TypeId × Value → H) :
    ReturnsInHanded {} Try.checked os 7 .any (Rows.fnExactNatDivSpec.pre6 enc Try.prog Try.f7 Rows.fnExactNatDivRow.domain false) (Rows.fnExactNatDivSpec.post enc Try.prog Try.f7 false true false false) := by
  refine returnsInHanded_of_change (C := Try.checked) own started (by kernel_rfl) Try.func7
    (ChangeSpec.witness6 (enc := enc) (C := Try.checked) false ⟨#[], #[.slice none 0 0, .slice none 0 0], []⟩ 8 (by kernel_rfl) (by kernel_rfl) (by kernel_rfl) (by kernel_rfl)) ?_
  intro W base args ds gs before hval0 hW hcnd _
  have hval : ∀ (j : Nat) t v, Try.f7.params[j]? = some t → args[j]? = some v → Value.okWide Try.prog W .any base t v := hval0
  have hW' := hW
  obtain ⟨p, q, hA0, hV, rfl, hfz, hnd⟩ := hW
  have hA : DataW.TrodAll enc Try.prog W 0 (fun _ => true) true Try.f7.params.toList args.toList ds p := hA0
  rw [Try.params7] at hA hval
  obtain ⟨v0, vs0, d0, ds0, p0, q0, hargs, rfl, rfl, h0, r0⟩ := trodAll_cons hA
  obtain ⟨v1, vs1, d1, ds1, p1, q1, rfl, rfl, rfl, h1, r1⟩ := trodAll_cons r0
  obtain ⟨rfl, rfl, rfl⟩ := trodAll_nil r1
  obtain rfl : args = #[v0, v1] := by cases args; simp_all
  obtain ⟨rfl, rfl⟩ := trodVars_none hV
  obtain ⟨a0, len0, cap0, rfl⟩ := okWide_slice Try.underlying22 (hval 0 22 v0 rfl rfl)
  have k0 := h0
  have lt0 : ∀ x ∈ p0, x.block < W.heap.size := by obtain ⟨m, hm⟩ := k0; exact DataW.trod_lt m _ _ _ hm
  obtain ⟨z0, w0⟩ : ∃ zs, IsRow .i64 W a0 len0 cap0 zs := by
    obtain ⟨fuel, hf⟩ := h0
    rcases open_ints Try.underlying22 Try.underlying3 (by kernel_rfl) hf with ⟨hcs, _⟩ | ⟨x, l, c, zs, hcs, _, hl, hm, hz, _, hcell, hwz⟩
    · simp [Value.cells] at hcs
      obtain ⟨rfl, rfl, rfl⟩ := hcs
      exact ⟨[], .inl ⟨rfl, rfl, rfl, rfl⟩⟩
    · simp [Value.cells] at hcs
      obtain ⟨rfl, rfl, rfl⟩ := hcs
      exact ⟨zs, .inr ⟨_, rfl, hl, hm, by simpa using hz, hcell, hwz⟩⟩
  obtain ⟨a1, len1, cap1, rfl⟩ := okWide_slice Try.underlying22 (hval 1 22 v1 rfl rfl)
  have k1 := h1
  have lt1 : ∀ x ∈ p1, x.block < W.heap.size := by obtain ⟨m, hm⟩ := k1; exact DataW.trod_lt m _ _ _ hm
  obtain ⟨z1, w1⟩ : ∃ zs, IsRow .i64 W a1 len1 cap1 zs := by
    obtain ⟨fuel, hf⟩ := h1
    rcases open_ints Try.underlying22 Try.underlying3 (by kernel_rfl) hf with ⟨hcs, _⟩ | ⟨x, l, c, zs, hcs, _, hl, hm, hz, _, hcell, hwz⟩
    · simp [Value.cells] at hcs
      obtain ⟨rfl, rfl, rfl⟩ := hcs
      exact ⟨[], .inl ⟨rfl, rfl, rfl, rfl⟩⟩
    · simp [Value.cells] at hcs
      obtain ⟨rfl, rfl, rfl⟩ := hcs
      exact ⟨zs, .inr ⟨_, rfl, hl, hm, by simpa using hz, hcell, hwz⟩⟩
  clear hA0 hval0
  refine (walk a0 len0 cap0 z0 a1 len1 cap1 z1 W w0 w1).mono fun e W' ⟨he, bel⟩ => ?_
  subst he
  exact ⟨_, rfl, _, _, _, [], _, [], hW', trodAll_mk1 (shut_bool Try.underlying4 _), (trodAll_cons_mk (Below.trod laidOut (by kernel_rfl) (of_decide_eq_true (by kernel_rfl)) k0 bel lt0) (trodAll_cons_mk (Below.trod laidOut (by kernel_rfl) (of_decide_eq_true (by kernel_rfl)) k1 bel lt1) trodAll_mk0)), rfl, bel.frame _, fun h => by cases h⟩

theorem over : Rows.fnExactNatDivRow.holds Try.pinned (OpenSpec.ofChange Rows.fnExactNatDivSpec) :=
  OpenClaim.holds_of_wide 7 Try.f7 rfl rfl rfl rfl rfl rfl rfl ⟨rfl, rfl, rfl, rfl, rfl⟩ rfl rfl rfl rfl rfl (by kernel_rfl) Try.func7 (by kernel_rfl)
    (of_decide_eq_true (by kernel_rfl)) (by unfold Func.isWrapper; first | (rw [if_pos (by decide +kernel)]; kernel_rfl) | (rw [if_neg (by decide +kernel)]; exact ⟨rfl, rfl⟩))
    (fun os started H enc _ => lifted os started H enc)

/-- ████ THE STATEMENT ████ -/
theorem proved : Rows.FnExactNatDivSaid := over
end Go.Proofs.Ytojgnbckikpgmag.fnExactNatDiv

namespace Go.Proofs.Ytojgnbckikpgmag
/-- The given statement. -/
theorem fnExactNatDiv_holds : Rows.FnExactNatDivSaid := fnExactNatDiv.proved
#print axioms fnExactNatDiv_holds
end Go.Proofs.Ytojgnbckikpgmag
