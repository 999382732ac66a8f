/- Walks: LongTime and ShortTime of the model. -/
import Derived.Test.YtjidlahgfkdipaaDoorTit
namespace Go.Proofs.YtjidlahgfkdipaaDoor
set_option linter.unusedVariables false
set_option linter.unusedSimpArgs false
open Go.RowKit Go.Sort

theorem l_parts {s : Nat} (h : s < 86400) : ∃ a q b c : Nat, a = s / 3600 ∧ b = s / 60 % 60 ∧ c = s % 60 ∧ a ≤ 23 ∧ q ≤ 1440 ∧ b ≤ 59 ∧ c ≤ 59 ∧ Int.tdiv (s : Int) 3600 = (a : Int) ∧ Int.tdiv (s : Int) 60 = (q : Int) ∧ Int.tmod (q : Int) 60 = (b : Int) ∧ Int.tmod (s : Int) 60 = (c : Int) := by
  refine ⟨s / 3600, s / 60, s / 60 % 60, s % 60, rfl, rfl, rfl, by omega, by omega, by omega, by omega, ?_, ?_, ?_, ?_⟩
  · rw [Int.tdiv_eq_ediv_of_nonneg (by omega)]; omega
  · rw [Int.tdiv_eq_ediv_of_nonneg (by omega)]; omega
  · rw [Int.tmod_eq_emod_of_nonneg (by omega)]; omega
  · rw [Int.tmod_eq_emod_of_nonneg (by omega)]; omega
def restB (m d s : Nat) : ByteArray := ⟨(restL m d s).toArray⟩
theorem twoB_size (n : Nat) : (twoB n).size = 2 := rfl
theorem restB_eq (m d s : Nat) : restB m d s = twoB m ++ twoB d ++ twoB (s / 3600) ++ twoB (s / 60 % 60) ++ twoB (s % 60) ++ ⟨#[90]⟩ := by
  unfold restB twoB restL
  rw [show (⟨#[90]⟩ : ByteArray) = ⟨([90] : List UInt8).toArray⟩ from rfl, ba_app, ba_app, ba_app, ba_app, ba_app]
  simp only [List.append_assoc]
theorem longB_eq (y m d s : Nat) : longB y m d s = twoB (y / 100) ++ twoB y ++ restB m d s := by
  unfold longB restB twoB longL
  rw [ba_app, ba_app]
  simp only [List.append_assoc]
theorem shortB_eq (y m d s : Nat) : shortB y m d s = twoB y ++ restB m d s := by
  unfold shortB restB twoB shortL
  rw [ba_app]

theorem reg_of {f : Nat} {args : Array Value} {v : Value} (H : ∀ W, Calls Tryd.prog f args W fun e w' => e = .returned v ∧ Ext W w') : Hid (∀ W, Calls Tryd.prog f args W fun e w' => e = .returned v ∧ Ext W w') := H

set_option maxHeartbeats 1600000 in
set_option maxRecDepth 100000 in
theorem l9Rest_any (m d s : Nat) (hm : m ≤ 100) (hd : d ≤ 100) (hs : s < 86400) (w : World) : Calls Tryd.prog 33 #[.int .i64 (m : Int), .int .i64 (d : Int), .int .i64 (s : Int)] w fun e w' => e = .returned (.string (restB m d s)) ∧ Ext w w' := by
  have HA := hide (restB_eq m d s)
  obtain ⟨a, q, b, c, ha, hb, hc, ka, kq, kb, kc, c1, c2, c3, c4⟩ := l_parts hs
  rw [← ha, ← hb, ← hc] at HA
  have HC := hide (And.intro c1 (And.intro c2 (And.intro c3 c4)))
  clear c1 c2 c3 c4 ha hb hc
  have H0 := reg_of (fun W => l9Two_any m (by omega) W)
  have H1 := reg_of (fun W => l9Two_any d (by omega) W)
  have H2 := reg_of (fun W => l9Two_any a (by omega) W)
  have H3 := reg_of (fun W => l9Two_any b (by omega) W)
  have H4 := reg_of (fun W => l9Two_any c (by omega) W)
  have HW := hide (And.intro (w_small (n := a) (by omega)) (And.intro (w_small (n := q) (by omega)) (And.intro (w_small (n := b) (by omega)) (w_small (n := c) (by omega)))))
  have z0 := twoB_size m
  have z1 := twoB_size d
  have z2 := twoB_size a
  have z3 := twoB_size b
  have z4 := twoB_size c
  generalize restB m d s = R at *
  generalize twoB m = D0 at *
  generalize twoB d = D1 at *
  generalize twoB a = D2 at *
  generalize twoB b = D3 at *
  generalize twoB c = D4 at *
  clear hm hd hs ka kq kb kc
  replace HA := HA.out
  have zd : (⟨#[90]⟩ : ByteArray).size = 1 := rfl
  obtain ⟨S1, hS1⟩ : ∃ S, S = D0 ++ D1 := ⟨_, rfl⟩
  have q1 : S1.size ≤ 100 := by rw [hS1, ByteArray.size_append]; omega
  obtain ⟨S2, hS2⟩ : ∃ S, S = S1 ++ D2 := ⟨_, rfl⟩
  have q2 : S2.size ≤ 110 := by rw [hS2, ByteArray.size_append]; omega
  obtain ⟨S3, hS3⟩ : ∃ S, S = S2 ++ D3 := ⟨_, rfl⟩
  have q3 : S3.size ≤ 120 := by rw [hS3, ByteArray.size_append]; omega
  obtain ⟨S4, hS4⟩ : ∃ S, S = S3 ++ D4 := ⟨_, rfl⟩
  have q4 : S4.size ≤ 130 := by rw [hS4, ByteArray.size_append]; omega
  rw [← hS1, ← hS2, ← hS3, ← hS4] at HA
  have r1 := add_rule hS1 (by omega)
  have r2 := add_rule hS2 (by omega)
  have r3 := add_rule hS3 (by omega)
  have r4 := add_rule hS4 (by omega)
  have r5 := add_rule HA (by omega)
  clear hS1 hS2 hS3 hS4 HA q1 q2 q3 q4 zd z0 z1 z2 z3 z4
  obtain ⟨c1, c2, c3, c4⟩ := HC.out
  obtain ⟨⟨p1, u1⟩, ⟨p2, u2⟩, ⟨p3, u3⟩, ⟨p4, u4⟩⟩ := HW.out
  clear HC HW
  go_enter Tryd.func33, Tryd.ntmps33
  have HE := hide (Ext.refl w)
  go_wp2_with (first | (go_at_call_of 32 (m); refine (H0.out _).mono ?_; rintro e w' ⟨rfl, hE'⟩; replace HE := hide (Ext.trans HE.out hE'); clear hE') | (go_at_call_of 32 (d); refine (H1.out _).mono ?_; rintro e w' ⟨rfl, hE'⟩; replace HE := hide (Ext.trans HE.out hE'); clear hE') | (go_at_call_of 32 (a); refine (H2.out _).mono ?_; rintro e w' ⟨rfl, hE'⟩; replace HE := hide (Ext.trans HE.out hE'); clear hE') | (go_at_call_of 32 (b); refine (H3.out _).mono ?_; rintro e w' ⟨rfl, hE'⟩; replace HE := hide (Ext.trans HE.out hE'); clear hE') | (go_at_call_of 32 (c); refine (H4.out _).mono ?_; rintro e w' ⟨rfl, hE'⟩; replace HE := hide (Ext.trans HE.out hE'); clear hE'))
  go_ret
  exact ⟨rfl, HE.out⟩

set_option maxHeartbeats 1600000 in
set_option maxRecDepth 100000 in
theorem specLong_yes (t : Int) (h : inT t) (w : World) : Calls Tryd.prog 15 #[.int .i64 t] w fun e w' => GivesLong t w e w' := by
  have HD := hide (specDayOf_yes t h w)
  clear h
  go_enter Tryd.func15, Tryd.ntmps15
  go_wp2_with fail
  refine HD.out.mono ?_
  rintro e w1 ⟨y, m, d, s, rfl, hI, hE⟩
  have HI := hide hI
  have HE := hide hE
  obtain ⟨y0, y1, m0, m1, d0, d1⟩ := tm_bounds hI.toDayOk
  have hy0 : ((y : Int) == 0) = false := by simp; omega
  obtain ⟨q, hq⟩ : ∃ q, q = y / 100 := ⟨_, rfl⟩
  have hq20 : q ≤ 20 := by omega
  have hqd : Int.tdiv (y : Int) 100 = (q : Int) := by rw [Int.tdiv_eq_ediv_of_nonneg (by omega)]; omega
  obtain ⟨p1, u1⟩ := w_small (n := q) (by omega)
  have H0 := reg_of (fun W => l9Two_any q (by omega) W)
  have H1 := reg_of (fun W => l9Two_any y (by omega) W)
  have H2 := reg_of (fun W => l9Rest_any m d s (by omega) (by omega) hI.s1 W)
  have HA := longB_eq y m d s
  rw [← hq] at HA
  have z0 := twoB_size q
  have z1 := twoB_size y
  have z2 : (restB m d s).size = 11 := rfl
  generalize hLL : longB y m d s = L at *
  have HLL := hide hLL
  generalize twoB q = D0 at *
  generalize twoB y = D1 at *
  generalize restB m d s = D2 at *
  obtain ⟨S1, hS1⟩ : ∃ S, S = D0 ++ D1 := ⟨_, rfl⟩
  have q1 : S1.size ≤ 100 := by rw [hS1, ByteArray.size_append]; omega
  rw [← hS1] at HA
  have r1 := add_rule hS1 (by omega)
  have r2 := add_rule HA (by omega)
  clear hS1 HA q1 z0 z1 z2 hLL hI hE y0 y1 m0 m1 d0 d1 hq hq20
  go_wp2_with (first | (go_at_call_of 32 (q); refine (H0.out _).mono ?_; rintro e w' ⟨rfl, hE'⟩; replace HE := hide (Ext.trans HE.out hE'); clear hE') | (go_at_call_of 32 (y); refine (H1.out _).mono ?_; rintro e w' ⟨rfl, hE'⟩; replace HE := hide (Ext.trans HE.out hE'); clear hE') | (go_at_call 33; refine (H2.out _).mono ?_; rintro e w' ⟨rfl, hE'⟩; replace HE := hide (Ext.trans HE.out hE'); clear hE'))
  go_ret2
  exact ⟨y, m, d, s, (by rw [HLL.out]; rfl), HI.out, HE.out⟩

theorem specLong_no (t : Int) (h : ¬ inT t) (w : World) : Calls Tryd.prog 15 #[.int .i64 t] w fun e w' => e = .returned (.tuple #[.string ⟨#[]⟩, .bool false]) ∧ w' = w := by
  have HD := hide (specDayOf_no t h w)
  clear h
  go_enter Tryd.func15, Tryd.ntmps15
  go_wp2_with fail
  refine HD.out.mono ?_
  rintro e w1 ⟨rfl, hw⟩
  obtain rfl := hw.symm
  go_wp2
  go_ret2
  exact ⟨rfl, rfl⟩

set_option maxHeartbeats 1600000 in
set_option maxRecDepth 100000 in
theorem specShort_yes (t : Int) (h : inT t) (h2 : t ≤ 2524607999) (w : World) : Calls Tryd.prog 13 #[.int .i64 t] w fun e w' => GivesShort t w e w' := by
  have HD := hide (specDayOf_yes t h w)
  have Ht := hide h2
  clear h h2
  go_enter Tryd.func13, Tryd.ntmps13
  go_wp2_with fail
  refine HD.out.mono ?_
  rintro e w1 ⟨y, m, d, s, rfl, hI, hE⟩
  have HI := hide hI
  have HE := hide hE
  obtain ⟨y0, y1, m0, m1, d0, d1⟩ := tm_bounds hI.toDayOk
  have y49 : y ≤ 2049 := hI.short.2 Ht.out
  have HR := hide (l1In_yes (y : Int) 1950 2049 w1 (by omega) (by omega))
  have H1 := reg_of (fun W => l9Two_any y (by omega) W)
  have H2 := reg_of (fun W => l9Rest_any m d s (by omega) (by omega) hI.s1 W)
  have HA := shortB_eq y m d s
  have z1 := twoB_size y
  have z2 : (restB m d s).size = 11 := rfl
  generalize hLL : shortB y m d s = L at *
  have HLL := hide hLL
  generalize twoB y = D1 at *
  generalize restB m d s = D2 at *
  have r2 := add_rule HA (by omega)
  clear HA z1 z2 hLL hI hE y0 y1 m0 m1 d0 d1 y49
  go_wp2_with (first | (go_at_call 32; refine (H1.out _).mono ?_; rintro e w' ⟨rfl, hE'⟩; replace HE := hide (Ext.trans HE.out hE'); clear hE') | (go_at_call 33; refine (H2.out _).mono ?_; rintro e w' ⟨rfl, hE'⟩; replace HE := hide (Ext.trans HE.out hE'); clear hE') | (go_at_call 24; refine HR.out.mono ?_; rintro e w2 ⟨rfl, hw⟩; obtain rfl := hw.symm))
  go_ret2
  exact ⟨y, m, d, s, (by rw [HLL.out]; rfl), HI.out, HE.out⟩

theorem specShort_no (t : Int) (h : ¬ (inT t ∧ t ≤ 2524607999)) (w : World) : Calls Tryd.prog 13 #[.int .i64 t] w fun e w' => e = .returned (.tuple #[.string ⟨#[]⟩, .bool false]) ∧ Ext w w' := by
  by_cases hi : inT t
  · have h2 : ¬ t ≤ 2524607999 := fun x => h ⟨hi, x⟩
    have HD := hide (specDayOf_yes t hi w)
    have Ht := hide h2
    clear h hi h2
    go_enter Tryd.func13, Tryd.ntmps13
    go_wp2_with fail
    refine HD.out.mono ?_
    rintro e w1 ⟨y, m, d, s, rfl, hI, hE⟩
    have HE := hide hE
    have HR := hide (l1In_no (y : Int) 1950 2049 w1 (by have := Ht.out; have := hI.short; omega))
    clear hE hI
    go_wp2_with (go_at_call 24; refine HR.out.mono ?_; rintro e w2 ⟨rfl, hw⟩; obtain rfl := hw.symm)
    go_ret2
    exact ⟨rfl, HE.out⟩
  · have HD := hide (specDayOf_no t hi w)
    have HR := hide (l1In_no 0 1950 2049 w (by omega))
    clear h hi
    go_enter Tryd.func13, Tryd.ntmps13
    go_wp2_with fail
    refine HD.out.mono ?_
    rintro e w1 ⟨rfl, hw⟩
    obtain rfl := hw.symm
    go_wp2_with (go_at_call 24; refine HR.out.mono ?_; rintro e w2 ⟨rfl, hw⟩; obtain rfl := hw.symm)
    go_ret2
    exact ⟨rfl, Ext.refl _⟩

end Go.Proofs.YtjidlahgfkdipaaDoor
