/- Walks: LongTime and ShortTime of the model. Walks: times as pieces and as items. Lists of bytes as a field: measured, copied, compared. Lists of what is void in memory; the laws' own helpers over them (written by mkcrl.py). Walks: serials, times and seals that are right, of the program. -/
import Derived.Test.YtgdjaapjdmancaaGreatDoorCy16
import Derived.Test.YtgdjaapjdmancaaGreatDoorCy14
import Derived.Test.YtgdjaapjdmancaaGreatDoorCy01
import Derived.Test.YtgdjaapjdmancaaGreatDoorCy10
namespace Go.Proofs.YtgdjaapjdmancaaGreatDoor

section
set_option linter.unusedVariables false
set_option linter.unusedSimpArgs false

open Go.RowKit Go.Sort

theorem l_parts {s : Nat} (h : s < 86400) : ∃ a q b c : Nat, a = s / 3600 ∧ b = s / 60 % 60 ∧ c = s % 60 ∧ a ≤ 23 ∧ q ≤ 1440 ∧ b ≤ 59 ∧ c ≤ 59 ∧ Int.tdiv (s : Int) 3600 = (a : Int) ∧ Int.tdiv (s : Int) 60 = (q : Int) ∧ Int.tmod (q : Int) 60 = (b : Int) ∧ Int.tmod (s : Int) 60 = (c : Int) := by
  refine ⟨s / 3600, s / 60, s / 60 % 60, s % 60, rfl, rfl, rfl, by omega, by omega, by omega, by omega, ?_, ?_, ?_, ?_⟩
  · rw [Int.tdiv_eq_ediv_of_nonneg (by omega)]; omega
  · rw [Int.tdiv_eq_ediv_of_nonneg (by omega)]; omega
  · rw [Int.tmod_eq_emod_of_nonneg (by omega)]; omega
  · rw [Int.tmod_eq_emod_of_nonneg (by omega)]; omega

def restB (m d s : Nat) : ByteArray := ⟨(restL m d s).toArray⟩

theorem twoB_size (n : Nat) : (twoB n).size = 2 := rfl

theorem restB_eq (m d s : Nat) : restB m d s = twoB m ++ twoB d ++ twoB (s / 3600) ++ twoB (s / 60 % 60) ++ twoB (s % 60) ++ ⟨#[90]⟩ := by
  unfold restB twoB restL
  rw [show (⟨#[90]⟩ : ByteArray) = ⟨([90] : List UInt8).toArray⟩ from rfl, ba_app, ba_app, ba_app, ba_app, ba_app]
  simp only [List.append_assoc]

theorem longB_eq (y m d s : Nat) : longB y m d s = twoB (y / 100) ++ twoB y ++ restB m d s := by
  unfold longB restB twoB longL
  rw [ba_app, ba_app]
  simp only [List.append_assoc]

theorem shortB_eq (y m d s : Nat) : shortB y m d s = twoB y ++ restB m d s := by
  unfold shortB restB twoB shortL
  rw [ba_app]

theorem reg_of {f : Nat} {args : Array Value} {v : Value} (H : ∀ W, Calls Tryz.prog f args W fun e w' => e = .returned v ∧ Ext W w') : Hid (∀ W, Calls Tryz.prog f args W fun e w' => e = .returned v ∧ Ext W w') := H

set_option maxHeartbeats 1600000 in
set_option maxRecDepth 100000 in
theorem l9Rest_any (m d s : Nat) (hm : m ≤ 100) (hd : d ≤ 100) (hs : s < 86400) (w : World) : Calls Tryz.prog 86 #[.int .i64 (m : Int), .int .i64 (d : Int), .int .i64 (s : Int)] w fun e w' => e = .returned (.string (restB m d s)) ∧ Ext w w' := by
  have HA := hide (restB_eq m d s)
  obtain ⟨a, q, b, c, ha, hb, hc, ka, kq, kb, kc, c1, c2, c3, c4⟩ := l_parts hs
  rw [← ha, ← hb, ← hc] at HA
  have HC := hide (And.intro c1 (And.intro c2 (And.intro c3 c4)))
  clear c1 c2 c3 c4 ha hb hc
  have H0 := reg_of (fun W => l9Two_any m (by omega) W)
  have H1 := reg_of (fun W => l9Two_any d (by omega) W)
  have H2 := reg_of (fun W => l9Two_any a (by omega) W)
  have H3 := reg_of (fun W => l9Two_any b (by omega) W)
  have H4 := reg_of (fun W => l9Two_any c (by omega) W)
  have HW := hide (And.intro (w_small (n := a) (by omega)) (And.intro (w_small (n := q) (by omega)) (And.intro (w_small (n := b) (by omega)) (w_small (n := c) (by omega)))))
  have z0 := twoB_size m
  have z1 := twoB_size d
  have z2 := twoB_size a
  have z3 := twoB_size b
  have z4 := twoB_size c
  generalize restB m d s = R at *
  generalize twoB m = D0 at *
  generalize twoB d = D1 at *
  generalize twoB a = D2 at *
  generalize twoB b = D3 at *
  generalize twoB c = D4 at *
  clear hm hd hs ka kq kb kc
  replace HA := HA.out
  have zd : (⟨#[90]⟩ : ByteArray).size = 1 := rfl
  obtain ⟨S1, hS1⟩ : ∃ S, S = D0 ++ D1 := ⟨_, rfl⟩
  have q1 : S1.size ≤ 100 := by rw [hS1, ByteArray.size_append]; omega
  obtain ⟨S2, hS2⟩ : ∃ S, S = S1 ++ D2 := ⟨_, rfl⟩
  have q2 : S2.size ≤ 110 := by rw [hS2, ByteArray.size_append]; omega
  obtain ⟨S3, hS3⟩ : ∃ S, S = S2 ++ D3 := ⟨_, rfl⟩
  have q3 : S3.size ≤ 120 := by rw [hS3, ByteArray.size_append]; omega
  obtain ⟨S4, hS4⟩ : ∃ S, S = S3 ++ D4 := ⟨_, rfl⟩
  have q4 : S4.size ≤ 130 := by rw [hS4, ByteArray.size_append]; omega
  rw [← hS1, ← hS2, ← hS3, ← hS4] at HA
  have r1 := add_rule hS1 (by omega)
  have r2 := add_rule hS2 (by omega)
  have r3 := add_rule hS3 (by omega)
  have r4 := add_rule hS4 (by omega)
  have r5 := add_rule HA (by omega)
  clear hS1 hS2 hS3 hS4 HA q1 q2 q3 q4 zd z0 z1 z2 z3 z4
  obtain ⟨c1, c2, c3, c4⟩ := HC.out
  obtain ⟨⟨p1, u1⟩, ⟨p2, u2⟩, ⟨p3, u3⟩, ⟨p4, u4⟩⟩ := HW.out
  clear HC HW
  go_enter Tryz.func86, Tryz.ntmps86
  have HE := hide (Ext.refl w)
  go_wp2_with (first | (go_at_call_of 85 (m); refine (H0.out _).mono ?_; rintro e w' ⟨rfl, hE'⟩; replace HE := hide (Ext.trans HE.out hE'); clear hE') | (go_at_call_of 85 (d); refine (H1.out _).mono ?_; rintro e w' ⟨rfl, hE'⟩; replace HE := hide (Ext.trans HE.out hE'); clear hE') | (go_at_call_of 85 (a); refine (H2.out _).mono ?_; rintro e w' ⟨rfl, hE'⟩; replace HE := hide (Ext.trans HE.out hE'); clear hE') | (go_at_call_of 85 (b); refine (H3.out _).mono ?_; rintro e w' ⟨rfl, hE'⟩; replace HE := hide (Ext.trans HE.out hE'); clear hE') | (go_at_call_of 85 (c); refine (H4.out _).mono ?_; rintro e w' ⟨rfl, hE'⟩; replace HE := hide (Ext.trans HE.out hE'); clear hE'))
  go_ret
  exact ⟨rfl, HE.out⟩

set_option maxHeartbeats 1600000 in
set_option maxRecDepth 100000 in
theorem specLong_yes (t : Int) (h : inT t) (w : World) : Calls Tryz.prog 68 #[.int .i64 t] w fun e w' => GivesLong t w e w' := by
  have HD := hide (specDayOf_yes t h w)
  clear h
  go_enter Tryz.func68, Tryz.ntmps68
  go_wp2_with fail
  refine HD.out.mono ?_
  rintro e w1 ⟨y, m, d, s, rfl, hI, hE⟩
  have HI := hide hI
  have HE := hide hE
  obtain ⟨y0, y1, m0, m1, d0, d1⟩ := tm_bounds hI.toDayOk
  have hy0 : ((y : Int) == 0) = false := by simp; omega
  obtain ⟨q, hq⟩ : ∃ q, q = y / 100 := ⟨_, rfl⟩
  have hq20 : q ≤ 20 := by omega
  have hqd : Int.tdiv (y : Int) 100 = (q : Int) := by rw [Int.tdiv_eq_ediv_of_nonneg (by omega)]; omega
  obtain ⟨p1, u1⟩ := w_small (n := q) (by omega)
  have H0 := reg_of (fun W => l9Two_any q (by omega) W)
  have H1 := reg_of (fun W => l9Two_any y (by omega) W)
  have H2 := reg_of (fun W => l9Rest_any m d s (by omega) (by omega) hI.s1 W)
  have HA := longB_eq y m d s
  rw [← hq] at HA
  have z0 := twoB_size q
  have z1 := twoB_size y
  have z2 : (restB m d s).size = 11 := rfl
  generalize hLL : longB y m d s = L at *
  have HLL := hide hLL
  generalize twoB q = D0 at *
  generalize twoB y = D1 at *
  generalize restB m d s = D2 at *
  obtain ⟨S1, hS1⟩ : ∃ S, S = D0 ++ D1 := ⟨_, rfl⟩
  have q1 : S1.size ≤ 100 := by rw [hS1, ByteArray.size_append]; omega
  rw [← hS1] at HA
  have r1 := add_rule hS1 (by omega)
  have r2 := add_rule HA (by omega)
  clear hS1 HA q1 z0 z1 z2 hLL hI hE y0 y1 m0 m1 d0 d1 hq hq20
  go_wp2_with (first | (go_at_call_of 85 (q); refine (H0.out _).mono ?_; rintro e w' ⟨rfl, hE'⟩; replace HE := hide (Ext.trans HE.out hE'); clear hE') | (go_at_call_of 85 (y); refine (H1.out _).mono ?_; rintro e w' ⟨rfl, hE'⟩; replace HE := hide (Ext.trans HE.out hE'); clear hE') | (go_at_call 86; refine (H2.out _).mono ?_; rintro e w' ⟨rfl, hE'⟩; replace HE := hide (Ext.trans HE.out hE'); clear hE'))
  go_ret2
  exact ⟨y, m, d, s, (by rw [HLL.out]; rfl), HI.out, HE.out⟩

set_option maxHeartbeats 1600000 in
set_option maxRecDepth 100000 in
theorem specShort_yes (t : Int) (h : inT t) (h2 : t ≤ 2524607999) (w : World) : Calls Tryz.prog 67 #[.int .i64 t] w fun e w' => GivesShort t w e w' := by
  have HD := hide (specDayOf_yes t h w)
  have Ht := hide h2
  clear h h2
  go_enter Tryz.func67, Tryz.ntmps67
  go_wp2_with fail
  refine HD.out.mono ?_
  rintro e w1 ⟨y, m, d, s, rfl, hI, hE⟩
  have HI := hide hI
  have HE := hide hE
  obtain ⟨y0, y1, m0, m1, d0, d1⟩ := tm_bounds hI.toDayOk
  have y49 : y ≤ 2049 := hI.short.2 Ht.out
  have HR := hide (l1In_yes (y : Int) 1950 2049 w1 (by omega) (by omega))
  have H1 := reg_of (fun W => l9Two_any y (by omega) W)
  have H2 := reg_of (fun W => l9Rest_any m d s (by omega) (by omega) hI.s1 W)
  have HA := shortB_eq y m d s
  have z1 := twoB_size y
  have z2 : (restB m d s).size = 11 := rfl
  generalize hLL : shortB y m d s = L at *
  have HLL := hide hLL
  generalize twoB y = D1 at *
  generalize restB m d s = D2 at *
  have r2 := add_rule HA (by omega)
  clear HA z1 z2 hLL hI hE y0 y1 m0 m1 d0 d1 y49
  go_wp2_with (first | (go_at_call 85; refine (H1.out _).mono ?_; rintro e w' ⟨rfl, hE'⟩; replace HE := hide (Ext.trans HE.out hE'); clear hE') | (go_at_call 86; refine (H2.out _).mono ?_; rintro e w' ⟨rfl, hE'⟩; replace HE := hide (Ext.trans HE.out hE'); clear hE') | (go_at_call 35; refine HR.out.mono ?_; rintro e w2 ⟨rfl, hw⟩; obtain rfl := hw.symm))
  go_ret2
  exact ⟨y, m, d, s, (by rw [HLL.out]; rfl), HI.out, HE.out⟩

theorem specShort_no (t : Int) (h : ¬ (inT t ∧ t ≤ 2524607999)) (w : World) : Calls Tryz.prog 67 #[.int .i64 t] w fun e w' => e = .returned (.tuple #[.string ⟨#[]⟩, .bool false]) ∧ Ext w w' := by
  by_cases hi : inT t
  · have h2 : ¬ t ≤ 2524607999 := fun x => h ⟨hi, x⟩
    have HD := hide (specDayOf_yes t hi w)
    have Ht := hide h2
    clear h hi h2
    go_enter Tryz.func67, Tryz.ntmps67
    go_wp2_with fail
    refine HD.out.mono ?_
    rintro e w1 ⟨y, m, d, s, rfl, hI, hE⟩
    have HE := hide hE
    have HR := hide (l1In_no (y : Int) 1950 2049 w1 (by have := Ht.out; have := hI.short; omega))
    clear hE hI
    go_wp2_with (go_at_call 35; refine HR.out.mono ?_; rintro e w2 ⟨rfl, hw⟩; obtain rfl := hw.symm)
    go_ret2
    exact ⟨rfl, HE.out⟩
  · have HD := hide (specDayOf_no t hi w)
    have HR := hide (l1In_no 0 1950 2049 w (by omega))
    clear h hi
    go_enter Tryz.func67, Tryz.ntmps67
    go_wp2_with fail
    refine HD.out.mono ?_
    rintro e w1 ⟨rfl, hw⟩
    obtain rfl := hw.symm
    go_wp2_with (go_at_call 35; refine HR.out.mono ?_; rintro e w2 ⟨rfl, hw⟩; obtain rfl := hw.symm)
    go_ret2
    exact ⟨rfl, Ext.refl _⟩
end

section
set_option linter.unusedVariables false
set_option linter.unusedSimpArgs false

open Go.RowKit

/-- g tells the day and the second that a time is. -/
def DayG (g : Int → Nat × Nat × Nat × Nat) : Prop := ∀ t y m d s, IsDay t y m d s → g t = (y, m, d, s)

theorem dayG_ex : ∃ g, DayG g := by
  refine ⟨fun t => Classical.epsilon fun q : Nat × Nat × Nat × Nat => IsDay t q.1 q.2.1 q.2.2.1 q.2.2.2, fun t y m d s h => ?_⟩
  have h2 := Classical.epsilon_spec (p := fun q : Nat × Nat × Nat × Nat => IsDay t q.1 q.2.1 q.2.2.1 q.2.2.2) ⟨(y, m, d, s), h⟩
  show Classical.epsilon (fun q : Nat × Nat × Nat × Nat => IsDay t q.1 q.2.1 q.2.2.1 q.2.2.2) = (y, m, d, s)
  generalize Classical.epsilon (fun q : Nat × Nat × Nat × Nat => IsDay t q.1 q.2.1 q.2.2.1 q.2.2.2) = q at *
  obtain ⟨e1, e2, e3, e4⟩ := h2.unique h
  obtain ⟨a, b, c, f⟩ := q
  simp only at e1 e2 e3 e4
  subst e1 e2 e3 e4
  rfl

def stB (g : Int → Nat × Nat × Nat × Nat) (t : Int) : ByteArray := shortB (g t).1 (g t).2.1 (g t).2.2.1 (g t).2.2.2

def ltB (g : Int → Nat × Nat × Nat × Nat) (t : Int) : ByteArray := longB (g t).1 (g t).2.1 (g t).2.2.1 (g t).2.2.2

theorem stB_size (g : Int → Nat × Nat × Nat × Nat) (t : Int) : (stB g t).size = 13 := rfl

theorem ltB_size (g : Int → Nat × Nat × Nat × Nat) (t : Int) : (ltB g t).size = 15 := rfl

/-- What the item of a time tells. -/
def tiC (g : Int → Nat × Nat × Nat × Nat) (t : Int) : Ic := if t ≤ 2524607999 then txC 23 (stB g t) else txC 24 (ltB g t)

theorem tiC_len (g : Int → Nat × Nat × Nat × Nat) (t : Int) : (tiC g t).bd.length ≤ 15 := by
  unfold tiC
  split
  · show ((List.range (stB g t).size).map _).length ≤ 15
    rw [stB_size]; simp
  · show ((List.range (ltB g t).size).map _).length ≤ 15
    rw [ltB_size]; simp

/-- A text and that it is one. -/
def GivesTx (w : World) (s : ByteArray) (e : Ending) (w' : World) : Prop := e = .returned (.tuple #[.string s, .bool true]) ∧ Ext w w'

theorem GivesShort.tx {g : Int → Nat × Nat × Nat × Nat} (hg : DayG g) {t : Int} {w w' : World} {e : Ending} (h : GivesShort t w e w') : GivesTx w (stB g t) e w' := by
  obtain ⟨y, m, d, s, rfl, hd, hE⟩ := h
  exact ⟨by unfold stB; rw [hg _ _ _ _ _ hd], hE⟩

theorem GivesLong.tx {g : Int → Nat × Nat × Nat × Nat} (hg : DayG g) {t : Int} {w w' : World} {e : Ending} (h : GivesLong t w e w') : GivesTx w (ltB g t) e w' := by
  obtain ⟨y, m, d, s, rfl, hd, hE⟩ := h
  exact ⟨by unfold ltB; rw [hg _ _ _ _ _ hd], hE⟩

set_option maxHeartbeats 1600000 in
theorem timePiece_any (g : Int → Nat × Nat × Nat × Nat) (hg : DayG g) (t : Int) (h : inT t) (w : World) (hT : MTab w) (hP : TabP w) : Calls Tryz.prog 82 #[.int .i64 t] w fun e w' => GivesPc w [tiC g t] e w' := by
  by_cases h2 : t ≤ 2524607999
  · have HS := hide ((implShort_yes t h h2 w hT hP).mono fun e w' q => q.tx hg)
    have HC : Hid (tiC g t = ⟨23, 0, (List.range (stB g t).size).map (fun i => (bt (stB g t) i : Int))⟩) := hide (by unfold tiC; rw [if_pos h2]; rfl)
    generalize tiC g t = C at *
    generalize stB g t = s at *
    clear h h2 hT hP
    go_enter Tryz.func82, Tryz.ntmps82
    go_wp2_with fail
    refine HS.out.mono ?_
    rintro e w1 ⟨rfl, hE⟩
    have HE := hide hE
    clear hE HS
    have hcv := run_str w1 s
    have HO := hide (str_own w1 s)
    have HX := hide (strW_ext w1 s)
    generalize (fun i => (bt s i : Int)) = F at *
    generalize grownCap w1 s.size 0 5 = gc at *
    generalize strW w1 s = ws at *
    go_wp2_with fail
    refine (leafPiece_any 23 _ _ _ ws).mono ?_
    rintro e w2 ⟨rfl, hw⟩
    obtain rfl := hw.symm
    go_wp2
    go_ret
    exact ⟨_, _, rfl, Pce.leaf 23 HO.out (Below.size HE.out), by rw [List.map_cons, ct_one, HC.out]; rfl, HE.out.trans HX.out⟩
  · have HS := hide (implShort_no t (fun k => h2 k.2) w hT hP)
    have HL : Hid (∀ W, Ext w W → Calls Tryz.prog 99 #[.int .i64 t] W fun e w' => GivesTx W (ltB g t) e w') := fun W hW => (implLong_yes t h W (hT.ext hW) (hP.ext hW)).mono fun e w' q => q.tx hg
    have HC : Hid (tiC g t = ⟨24, 0, (List.range (ltB g t).size).map (fun i => (bt (ltB g t) i : Int))⟩) := hide (by unfold tiC; rw [if_neg h2]; rfl)
    generalize tiC g t = C at *
    generalize ltB g t = s at *
    clear h h2 hT hP
    go_enter Tryz.func82, Tryz.ntmps82
    go_wp2_with fail
    refine HS.out.mono ?_
    rintro e w0 ⟨rfl, hE0⟩
    have HE0 := hide hE0
    clear hE0 HS
    go_wp2_with fail
    refine (HL.out _ HE0.out).mono ?_
    rintro e w1 ⟨rfl, hE⟩
    have HE := hide (HE0.out.trans hE)
    clear hE HL
    have hcv := run_str w1 s
    have HO := hide (str_own w1 s)
    have HX := hide (strW_ext w1 s)
    generalize (fun i => (bt s i : Int)) = F at *
    generalize grownCap w1 s.size 0 5 = gc at *
    generalize strW w1 s = ws at *
    go_wp2_with fail
    refine (leafPiece_any 24 _ _ _ ws).mono ?_
    rintro e w2 ⟨rfl, hw⟩
    obtain rfl := hw.symm
    go_wp2
    go_ret
    exact ⟨_, _, rfl, Pce.leaf 24 HO.out (Below.size HE.out), by rw [List.map_cons, ct_one, HC.out]; rfl, HE.out.trans HX.out⟩

set_option maxHeartbeats 1600000 in
theorem l10Time_any (g : Int → Nat × Nat × Nat × Nat) (hg : DayG g) (t : Int) (h : inT t) (w : World) : Calls Tryz.prog 42 #[.int .i64 t] w fun e w' => GivesIs w.heap.size w [tiC g t] e w' := by
  by_cases h2 : t ≤ 2524607999
  · have HS := hide ((specShort_yes t h h2 w).mono fun e w' q => q.tx hg)
    have HC : Hid (tiC g t = ⟨23, 0, (List.range (stB g t).size).map (fun i => (bt (stB g t) i : Int))⟩) := hide (by unfold tiC; rw [if_pos h2]; rfl)
    generalize tiC g t = C at *
    generalize stB g t = s at *
    clear h h2
    go_enter Tryz.func42, Tryz.ntmps42
    go_wp2_with fail
    refine HS.out.mono ?_
    rintro e w1 ⟨rfl, hE⟩
    have HE := hide hE
    clear hE HS
    have hcv := run_str w1 s
    have HO := hide (str_own w1 s)
    have HX := hide (strW_ext w1 s)
    generalize (fun i => (bt s i : Int)) = F at *
    generalize grownCap w1 s.size 0 5 = gc at *
    generalize strW w1 s = ws at *
    have HI := hide (l10Item_any 23 (some ⟨w1.heap.size, 0, none⟩) w1.heap.size 0 s.size gc F w.heap.size ws HO.out (Below.size HE.out) (Nat.le_trans (Below.size HE.out) (Below.size HX.out)))
    go_wp2_with fail
    refine HI.out.mono ?_
    rintro e w2 ⟨v, L, rfl, hL, hC, hE2⟩
    have HL := hide hL
    have HLC := hide hC
    have HE2 := hide (HE.out.trans (HX.out.trans hE2))
    clear hL hC hE2 HI
    go_wp2
    go_ret
    exact ⟨_, L, rfl, HL.out, by rw [HLC.out, HC.out], HE2.out⟩
  · have HS := hide (specShort_no t (fun k => h2 k.2) w)
    have HL : Hid (∀ W, Calls Tryz.prog 68 #[.int .i64 t] W fun e w' => GivesTx W (ltB g t) e w') := fun W => (specLong_yes t h W).mono fun e w' q => q.tx hg
    have HC : Hid (tiC g t = ⟨24, 0, (List.range (ltB g t).size).map (fun i => (bt (ltB g t) i : Int))⟩) := hide (by unfold tiC; rw [if_neg h2]; rfl)
    generalize tiC g t = C at *
    generalize ltB g t = s at *
    clear h h2
    go_enter Tryz.func42, Tryz.ntmps42
    go_wp2_with fail
    refine HS.out.mono ?_
    rintro e w0 ⟨rfl, hE0⟩
    have HE0 := hide hE0
    clear hE0 HS
    go_wp2_with fail
    refine (HL.out _).mono ?_
    rintro e w1 ⟨rfl, hE⟩
    have HE := hide (HE0.out.trans hE)
    clear hE HL
    have hcv := run_str w1 s
    have HO := hide (str_own w1 s)
    have HX := hide (strW_ext w1 s)
    generalize (fun i => (bt s i : Int)) = F at *
    generalize grownCap w1 s.size 0 5 = gc at *
    generalize strW w1 s = ws at *
    have HI := hide (l10Item_any 24 (some ⟨w1.heap.size, 0, none⟩) w1.heap.size 0 s.size gc F w.heap.size ws HO.out (Below.size HE.out) (Nat.le_trans (Below.size HE.out) (Below.size HX.out)))
    go_wp2_with fail
    refine HI.out.mono ?_
    rintro e w2 ⟨v, L, rfl, hL, hC, hE2⟩
    have HL := hide hL
    have HLC := hide hC
    have HE2 := hide (HE.out.trans (HX.out.trans hE2))
    clear hL hC hE2 HI
    go_wp2
    go_ret
    exact ⟨_, L, rfl, HL.out, by rw [HLC.out, HC.out], HE2.out⟩

/-- What two times tell. -/
def tmC (g : Int → Nat × Nat × Nat × Nat) (fr to : Int) : List Ic := ⟨48, 2, []⟩ :: ([tiC g fr] ++ [tiC g to])

set_option maxHeartbeats 1600000 in
theorem timesPiece_any (g : Int → Nat × Nat × Nat × Nat) (hg : DayG g) (fr to : Int) (h : inT fr) (k : inT to) (w : World) (hT : MTab w) (hP : TabP w) : Calls Tryz.prog 58 #[.int .i64 fr, .int .i64 to] w fun e w' => GivesPc w (tmC g fr to) e w' := by
  have H1 := hide (timePiece_any g hg fr h w hT hP)
  have H2 : Hid (∀ W, Ext w W → Calls Tryz.prog 82 #[.int .i64 to] W fun e w' => GivesPc W [tiC g to] e w') := fun W hW => timePiece_any g hg to k W (hT.ext hW) (hP.ext hW)
  have HC : Hid (tmC g fr to = ⟨48, 2, []⟩ :: ([tiC g fr] ++ [tiC g to])) := rfl
  generalize tmC g fr to = C at *
  have HN1 : Hid (1 = [tiC g fr].length) := rfl
  have HN2 : Hid (1 = [tiC g to].length) := rfl
  generalize [tiC g fr] = C1 at *
  generalize [tiC g to] = C2 at *
  clear h k hT hP
  go_enter Tryz.func58, Tryz.ntmps58
  go_wp2_with fail
  refine H1.out.mono ?_
  rintro e w1 ⟨v1, L1, rfl, h1, h1c, h1E⟩
  obtain ⟨T1, t1, a1, n1, c1, rfl⟩ := h1.form
  have HP1 := hide h1
  have H1c := hide h1c
  have H1E := hide h1E
  clear h1 h1c h1E H1
  go_wp2_with fail
  refine (H2.out _ H1E.out).mono ?_
  rintro e w2 ⟨v2, L2, rfl, h2, h2c, h2E⟩
  obtain ⟨T2, t2, a2, n2, c2, rfl⟩ := h2.form
  have hS := HP1.out.one.add (.of_ext h2E (Nat.le_refl _)) (Below.size h2E) h2 (Below.size H1E.out) (Below.size h2E)
  have HS := hide (hS.ext (Ext.alloc w2 (.cells #[.iface T1 (.agg #[.int .i64 t1, .slice a1 n1 c1]), .iface T2 (.agg #[.int .i64 t2, .slice a2 n2 c2])] 47)))
  have HW := hide (World.ownsRow_lit (e := 47) (size := 1) (base := w.heap.size) w2 #[.iface T1 (.agg #[.int .i64 t1, .slice a1 n1 c1]), .iface T2 (.agg #[.int .i64 t2, .slice a2 n2 c2])] 2 (Below.size (H1E.out.trans h2E)) (by decide) rfl)
  have HX := hide (H1E.out.trans (h2E.trans (Ext.alloc w2 (.cells #[.iface T1 (.agg #[.int .i64 t1, .slice a1 n1 c1]), .iface T2 (.agg #[.int .i64 t2, .slice a2 n2 c2])] 47))))
  have H2c := hide h2c
  have HK := hide (Pce.knot 48 (HS.out.wide (Nat.le_refl _) (Nat.le_refl _) HS.out.hi) HW.out (by have h1 := map_len H1c.out; have h2 := map_len h2c; rw [← HN1.out] at h1; rw [← HN2.out] at h2; simp [h1, h2]) (by simp))
  clear h2 h2c h2E hS H2
  go_wp2_with fail
  refine (listPiece_any _ _ _ _).mono ?_
  rintro e w3 ⟨rfl, hw⟩
  obtain rfl := hw.symm
  go_wp2
  go_ret
  exact ⟨_, _, rfl, HK.out, by rw [List.map_cons, ct_bare, HC.out, ← H1c.out, ← H2c.out]; simp, HX.out⟩
end

section
set_option linter.unusedVariables false
set_option linter.unusedSimpArgs false
set_option maxRecDepth 100000

open Go.RowKit

theorem szBytes_any (a : Option Addr) (n cap : Nat) (l : Int) (w : World) (l0 : 0 ≤ l) (l1 : l ≤ 1048576) (hn : n ≤ 9223372036854775807) :
    Calls Tryz.prog 18 #[.slice a n cap, .int .i64 l] w fun e w' => (∃ z : Int, e = .returned (.int .i64 z) ∧ -1 ≤ z ∧ z ≤ l ∧ (0 ≤ z → (n : Int) ≤ l)) ∧ w' = w := by
  by_cases h : l < n
  · have h1 : l - (n : Int) < 0 := by omega
    have h2 : -9223372036854775808 ≤ l - (n : Int) := by omega
    go_enter Tryz.func18, Tryz.ntmps18
    go_wp2
    go_ret
    exact ⟨⟨-1, rfl, by omega, by omega, fun h => by omega⟩, rfl⟩
  · obtain ⟨D, hD⟩ : ∃ D, l - (n : Int) = D := ⟨_, rfl⟩
    have d0 : -1 ≤ D := by omega
    have d1 : D ≤ l := by omega
    have d2 : (n : Int) ≤ l := by omega
    have h1 : ¬ D < 0 := by omega
    have h3 : -9223372036854775808 ≤ D := by omega
    have h4 : D ≤ 9223372036854775807 := by omega
    go_enter Tryz.func18, Tryz.ntmps18
    go_wp2
    go_ret
    exact ⟨⟨D, rfl, d0, d1⟩, rfl⟩

theorem BSeg.kp {N : Nat} {w w' : World} {a : Option Addr} {b off n : Nat} {f : Nat → Int} (h : BSeg w a b off n f) (hb : N ≤ b) (k : Kp N w w') : BSeg w' a b off n f :=
  ⟨h.at', fun i hi => (World.cell?_of_block (a := ⟨b, off + i, none⟩) (k.2 b hb (h.lt (by omega)))).trans (h.cell i hi)⟩

theorem eqBytes_same (p p2 : Plc) (n : Nat) (f : Nat → Int) (W : World) (hs : BSeg W p.ad p.b p.off n f) (hs2 : BSeg W p2.ad p2.b p2.off n f) (hn : n ≤ 1048576) :
    Calls Tryz.prog 9 #[.slice p.ad n p.cap, .slice p2.ad n p2.cap] W fun e w' => e = .returned (.bool true) ∧ Ext W w' :=
  (eqByteS_any p.ad p.b p.off n p.cap f p2.ad p2.b p2.off n p2.cap f W hs hs2 hn).mono fun e w' ⟨h1, z, h2⟩ => ⟨by rw [h1, (alike_iff _ _ _).2 (fun _ _ => rfl)]; simp, by rw [h2]; exact below_drewN (Ext.refl _) _⟩
end

section
set_option linter.unusedVariables false
set_option linter.unusedSimpArgs false
set_option maxRecDepth 100000

open Go.RowKit

/-- A list of what is void. -/
structure Cl where
  ni : Nat
  fi : Nat → ByteArray
  fr : Int
  to : Int
  alg : Int
  nv : Nat
  fv : Nat → Int
  ng : Nat
  fg : Nat → Int

/-- Where its lists lie. -/
structure ClPl where
  i : Plc
  v : Plc
  g : Plc

def clL (c : Cl) (m : ClPl) : List Value := [.slice m.i.ad c.ni m.i.cap, .int .i64 c.fr, .int .i64 c.to, .int .i64 c.alg, .slice m.v.ad c.nv m.v.cap, .slice m.g.ad c.ng m.g.cap]

structure ClIn (w : World) (c : Cl) (m : ClPl) : Prop where
  i : SSeg w m.i.ad m.i.b m.i.off c.ni c.fi
  v : Seg w m.v.ad m.v.b m.v.off c.nv c.fv
  g : BSeg w m.g.ad m.g.b m.g.off c.ng c.fg

theorem ClIn.ext {w w' : World} {c : Cl} {m : ClPl} (h : ClIn w c m) (e : Ext w w') : ClIn w' c m := ⟨h.i.of_all e, h.v.of_all e, h.g.of_all e⟩

/-- How great it is. -/
structure ClSm (c : Cl) (B : Nat) : Prop where
  i : c.ni ≤ B
  is : ∀ j, j < c.ni → (c.fi j).size ≤ B
  v : c.nv ≤ B
  g : c.ng ≤ B

set_option maxHeartbeats 6400000 in
set_option maxRecDepth 100000 in
theorem szCrl_any (c : Cl) (m : ClPl) (l : Int) (w : World) (hI : ClIn w c m) (hS : ClSm c 9223372036854775807) (l0 : 0 ≤ l) (l1 : l ≤ 1048576) :
    Calls Tryz.prog 5 #[.agg (clL c m).toArray, .int .i64 l] w fun e w' => (∃ z : Int, e = .returned (.int .i64 z) ∧ -1 ≤ z ∧ z ≤ l ∧ (0 ≤ z → ClSm c 1048576)) ∧ Ext w w' := by
  obtain ⟨V, hV⟩ : ∃ V, w.alloc (.cells (clL c m).toArray 26) = V := ⟨_, rfl⟩
  obtain ⟨B0, hE, -⟩ := box1 w (clL c m) 26 (w1 := V) (by rw [← hV]; exact Ext.refl _)
  have HB := hide B0
  have HE := hide hE
  have HI := hide (hI.ext hE)
  have HS := hide hS
  clear B0 hE hI hS
  have c0 := (HB.out 0 _ rfl).1
  have c1 := (HB.out 4 _ rfl).1
  have c2 := (HB.out 5 _ rfl).1
  go_enter Tryz.func5, Tryz.ntmps5
  go_wp2_with fail
  refine (szStringS_any m.i.ad m.i.b m.i.off c.ni m.i.cap c.fi l V ⟨HI.out.i, HS.out.i, HS.out.is⟩ (by omega) (by omega)).mono ?_
  rintro e W ⟨⟨z0, rfl, z00, z01, hz0⟩, hw⟩
  obtain rfl := hw.symm
  clear hw
  have Hz0 := hide hz0
  clear hz0
  by_cases h0 : z0 < 0
  · go_wp2
    go_ret
    exact ⟨⟨-1, rfl, by omega, by omega, fun h => by omega⟩, HE.out⟩
  go_wp2_with fail
  refine (szInts_any m.v.ad c.nv m.v.cap z0 V (by omega) (by omega) HS.out.v).mono ?_
  rintro e W ⟨⟨z1, rfl, z10, z11, hz1⟩, hw⟩
  obtain rfl := hw.symm
  clear hw
  have Hz1 := hide hz1
  clear hz1
  by_cases h1 : z1 < 0
  · go_wp2
    go_ret
    exact ⟨⟨-1, rfl, by omega, by omega, fun h => by omega⟩, HE.out⟩
  go_wp2_with fail
  refine (szBytes_any m.g.ad c.ng m.g.cap z1 V (by omega) (by omega) HS.out.g).mono ?_
  rintro e W ⟨⟨z2, rfl, z20, z21, hz2⟩, hw⟩
  obtain rfl := hw.symm
  clear hw
  have Hz2 := hide hz2
  clear hz2
  by_cases h2 : z2 < 0
  · go_wp2
    go_ret
    exact ⟨⟨-1, rfl, by omega, by omega, fun h => by omega⟩, HE.out⟩
  go_wp2
  go_ret
  exact ⟨⟨z2, rfl, by omega, by omega, fun _ => by have e0 := Hz0.out (by omega); have e1 := Hz1.out (by omega); have e2 := Hz2.out (by omega); exact ⟨by omega, fun i hi => by have := e0.2 i hi; omega, by omega, by omega⟩⟩, HE.out⟩

set_option maxHeartbeats 12800000 in
set_option maxRecDepth 100000 in
theorem eqCrl_same (c : Cl) (m m2 : ClPl) (w : World) (hI : ClIn w c m) (hJ : ClIn w c m2) (hS : ClSm c 1048576) :
    Calls Tryz.prog 10 #[.agg (clL c m).toArray, .agg (clL c m2).toArray] w fun e w' => e = .returned (.bool true) ∧ Ext w w' := by
  obtain ⟨V, hV⟩ : ∃ V, (w.alloc (.cells (clL c m).toArray 30)).alloc (.cells (clL c m2).toArray 30) = V := ⟨_, rfl⟩
  obtain ⟨B0, B1, hE, -⟩ := box2 w (clL c m) (clL c m2) 30 30 (w1 := V) (by rw [← hV]; exact Ext.refl _)
  have HA := hide B0
  have HB := hide B1
  have HE := hide hE
  have HI := hide (hI.ext hE)
  have HJ := hide (hJ.ext hE)
  have HS := hide hS
  clear B0 B1 hE hI hJ hS
  have a1 := (HA.out 1 _ rfl).1
  have b1 := (HB.out 1 _ rfl).1
  have n1 : (c.fr != c.fr) = false := by simp
  have a2 := (HA.out 2 _ rfl).1
  have b2 := (HB.out 2 _ rfl).1
  have n2 : (c.to != c.to) = false := by simp
  have a3 := (HA.out 3 _ rfl).1
  have b3 := (HB.out 3 _ rfl).1
  have n3 : (c.alg != c.alg) = false := by simp
  go_enter Tryz.func10, Tryz.ntmps10
  have a0 := (HA.out 0 _ rfl).1
  have b0 := (HB.out 0 _ rfl).1
  go_wp2_with fail
  refine (eqStringS_same m.i.ad m.i.b m.i.off c.ni m.i.cap c.fi m2.i.ad m2.i.b m2.i.off m2.i.cap V HI.out.i HJ.out.i HS.out.i).mono ?_
  rintro e w0 ⟨rfl, hEW⟩
  replace HA := hide (Blk.ext HA.out hEW (Blk.lt HA.out (by simp [clL])))
  replace HB := hide (Blk.ext HB.out hEW (Blk.lt HB.out (by simp [clL])))
  replace HI := hide (HI.out.ext hEW)
  replace HJ := hide (HJ.out.ext hEW)
  replace HE := hide (Ext.trans HE.out hEW)
  clear hEW a0 b0
  replace a1 := (HA.out 1 _ rfl).1
  replace b1 := (HB.out 1 _ rfl).1
  replace a2 := (HA.out 2 _ rfl).1
  replace b2 := (HB.out 2 _ rfl).1
  replace a3 := (HA.out 3 _ rfl).1
  replace b3 := (HB.out 3 _ rfl).1
  have a4 := (HA.out 4 _ rfl).1
  have b4 := (HB.out 4 _ rfl).1
  go_wp2_with fail
  refine (eqInts_same m.v m2.v c.nv c.fv w0 HI.out.v HJ.out.v HS.out.v).mono ?_
  rintro e w4 ⟨rfl, hEW⟩
  replace HA := hide (Blk.ext HA.out hEW (Blk.lt HA.out (by simp [clL])))
  replace HB := hide (Blk.ext HB.out hEW (Blk.lt HB.out (by simp [clL])))
  replace HI := hide (HI.out.ext hEW)
  replace HJ := hide (HJ.out.ext hEW)
  replace HE := hide (Ext.trans HE.out hEW)
  clear hEW a4 b4
  clear a1 b1 n1
  clear a2 b2 n2
  clear a3 b3 n3
  have a5 := (HA.out 5 _ rfl).1
  have b5 := (HB.out 5 _ rfl).1
  go_wp2_with fail
  refine (eqBytes_same m.g m2.g c.ng c.fg w4 HI.out.g HJ.out.g HS.out.g).mono ?_
  rintro e w5 ⟨rfl, hEW⟩
  replace HA := hide (Blk.ext HA.out hEW (Blk.lt HA.out (by simp [clL])))
  replace HB := hide (Blk.ext HB.out hEW (Blk.lt HB.out (by simp [clL])))
  replace HI := hide (HI.out.ext hEW)
  replace HJ := hide (HJ.out.ext hEW)
  replace HE := hide (Ext.trans HE.out hEW)
  clear hEW a5 b5
  go_wp2
  go_ret
  exact ⟨rfl, HE.out⟩
end

section
set_option linter.unusedVariables false
set_option linter.unusedSimpArgs false
set_option maxRecDepth 100000

open Go.RowKit

/-- Both are times, the one not behind the other. -/
def tsB (fr to : Int) : Bool := tmB fr && (tmB to && decide (fr ≤ to))

/-- An algorithm, and a signature that is not too long. -/
def slB (alg : Int) (ng : Nat) : Bool := inB alg 1 4 && inB (ng : Int) 1 64

theorem allB_and (p q : Nat → Bool) (n : Nat) : allB (fun i => p i && q i) n = (allB p n && allB q n) := by
  cases e : allB (fun i => p i && q i) n
  · cases e1 : allB p n
    · rfl
    · cases e2 : allB q n
      · rfl
      · rw [allB_yes (fun j hj => by rw [allB_iff.1 e1 j hj, allB_iff.1 e2 j hj]; rfl)] at e
        cases e
  · have h := allB_iff.1 e
    rw [allB_yes (fun j hj => by have := h j hj; rw [Bool.and_eq_true] at this; exact this.1), allB_yes (fun j hj => by have := h j hj; rw [Bool.and_eq_true] at this; exact this.2)]
    rfl

theorem serialOk_any (x : Int) (w : World) : Calls Tryz.prog 48 #[.int .i64 x] w fun e w' => e = .returned (.bool (inB x 1 1000000000000000)) ∧ Ext w w' := by
  have HX := hide (inRange_any x 1 1000000000000000 w)
  generalize inB x 1 1000000000000000 = R at *
  go_enter Tryz.func48, Tryz.ntmps48
  go_wp2_with fail
  refine HX.out.mono ?_
  rintro e w1 ⟨rfl, hw⟩
  obtain rfl := hw.symm
  go_wp2
  go_ret
  exact ⟨rfl, Ext.refl _⟩

theorem timesOk_any (fr to : Int) (w : World) : Calls Tryz.prog 45 #[.int .i64 fr, .int .i64 to] w fun e w' => e = .returned (.bool (tsB fr to)) ∧ Ext w w' := by
  have H1 := hide (isTimeB fr w)
  have H2 := hide (isTimeB to w)
  have HV : Hid (tsB fr to = (tmB fr && (tmB to && decide (fr ≤ to)))) := rfl
  obtain ⟨R, hR⟩ : ∃ R, tsB fr to = R := ⟨_, rfl⟩
  rw [hR] at HV ⊢
  clear hR
  obtain ⟨q1, hq1⟩ : ∃ q, tmB fr = q := ⟨_, rfl⟩
  obtain ⟨q2, hq2⟩ : ∃ q, tmB to = q := ⟨_, rfl⟩
  rw [hq1] at H1 HV
  rw [hq2] at H2 HV
  clear hq1 hq2
  go_enter Tryz.func45, Tryz.ntmps45
  go_wp2_with fail
  refine H1.out.mono ?_
  rintro e w1 ⟨rfl, hw⟩
  obtain rfl := hw.symm
  clear hw
  cases q1
  · go_wp2
    go_ret
    exact ⟨ret_bool (by rw [HV.out]; rfl), Ext.refl _⟩
  go_wp2_with fail
  refine H2.out.mono ?_
  rintro e w2 ⟨rfl, hw⟩
  obtain rfl := hw.symm
  clear hw
  cases q2
  · go_wp2
    go_ret
    exact ⟨ret_bool (by rw [HV.out]; rfl), Ext.refl _⟩
  go_wp2
  go_ret
  exact ⟨ret_bool (by rw [HV.out]; rfl), Ext.refl _⟩

theorem sealOk_any (alg : Int) (a : Option Addr) (ng cap : Nat) (w : World) : Calls Tryz.prog 46 #[.int .i64 alg, .slice a ng cap] w fun e w' => e = .returned (.bool (slB alg ng)) ∧ Ext w w' := by
  have H1 := hide (inRange_any alg 1 4 w)
  have H2 := hide (inRange_any (ng : Int) 1 64 w)
  have HV : Hid (slB alg ng = (inB alg 1 4 && inB (ng : Int) 1 64)) := rfl
  obtain ⟨R, hR⟩ : ∃ R, slB alg ng = R := ⟨_, rfl⟩
  rw [hR] at HV ⊢
  clear hR
  obtain ⟨q1, hq1⟩ : ∃ q, inB alg 1 4 = q := ⟨_, rfl⟩
  obtain ⟨q2, hq2⟩ : ∃ q, inB (ng : Int) 1 64 = q := ⟨_, rfl⟩
  rw [hq1] at H1 HV
  rw [hq2] at H2 HV
  clear hq1 hq2
  go_enter Tryz.func46, Tryz.ntmps46
  go_wp2_with fail
  refine H1.out.mono ?_
  rintro e w1 ⟨rfl, hw⟩
  obtain rfl := hw.symm
  clear hw
  cases q1
  · go_wp2
    go_ret
    exact ⟨ret_bool (by rw [HV.out]; rfl), Ext.refl _⟩
  go_wp2_with fail
  refine H2.out.mono ?_
  rintro e w2 ⟨rfl, hw⟩
  obtain rfl := hw.symm
  clear hw
  go_wp2
  go_ret
  exact ⟨ret_bool (by rw [HV.out]; rfl), Ext.refl _⟩
end

end Go.Proofs.YtgdjaapjdmancaaGreatDoor
