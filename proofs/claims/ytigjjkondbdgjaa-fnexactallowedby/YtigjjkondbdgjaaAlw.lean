/- Walks: AllowedBy of both; slices.IndexFunc and ContainsFunc over strings with a closure. -/
import Derived.Test.YtigjjkondbdgjaaExs
import Derived.Test.YtigjjkondbdgjaaUnd
import Derived.Handy
namespace Go.Proofs.Ytigjjkondbdgjaa
set_option linter.unusedVariables false
set_option linter.unusedSimpArgs false
set_option maxRecDepth 100000
open Go.RowKit

/-- What slices.IndexFunc answers where R tells whether there is one. -/
def IdxP (R : Bool) (e : Ending) : Prop := ∃ z : Int, e = .returned (.int .i64 z) ∧ decide (0 ≤ z) = R

set_option maxHeartbeats 1600000 in
theorem indexFuncS_any (F : Nat) (c : Value) (hF : ∀ (args : Array Value) (w : World), (callFunc F args).run Try.prog w = .ok (.enter F args) w) (p : Nat → Bool) (a : Option Addr) (b off n cap : Nat) (f : Nat → ByteArray) (w : World) (hs : SSeg w a b off n f) (hn : n ≤ 1048576)
    (HC : Hid (∀ i, i < n → ∀ W, Ext w W → Calls Try.prog F #[.string (f i), c] W fun e w' => e = .returned (.bool (p i)) ∧ Ext W w')) :
    Calls Try.prog 75 #[.slice a n cap, .func (.func F) #[] #[c]] w fun e w' => IdxP (anyB p n) e ∧ Ext w w' := by
  have Hs := hide hs
  obtain ⟨R, hR⟩ : ∃ R, R = anyB p n := ⟨_, rfl⟩
  rw [← hR]
  have HR := hide hR
  clear hs hR
  go_enter Try.func75, Try.ntmps75
  go_wp2
  go_loopw [8] (fun i wr => ∃ k : Nat, k ≤ n ∧ i = .int .i64 (k : Int) ∧ (∀ j, j < k → p j = false) ∧ Ext w wr) (fun i _ => n - (intOf i).toNat)
  case atStart => exact ⟨0, Nat.zero_le _, rfl, fun j hj => absurd hj (Nat.not_lt_zero _), Ext.refl _⟩
  case round =>
    obtain ⟨k, hk, rfl, hd, hE⟩ := hrel
    have HD := hide hd
    have HE := hide hE
    by_cases hlt : k < n
    · obtain rfl := Hs.out.at' (by omega)
      have c1 := (Hs.out.of_all hE).cell k hlt
      have hkn : (k : Int) < (n : Int) := by omega
      have HX := hide (HC.out k hlt _ hE)
      obtain ⟨q, hq⟩ : ∃ q, p k = q := ⟨_, rfl⟩
      rw [hq] at HX
      have Hq := hide hq
      clear hd hE hq
      go_wp2_with fail
      refine HX.out.mono ?_
      rintro e w1 ⟨rfl, hE1⟩
      have HE1 := hide hE1
      clear hE1
      cases q
      · go_wp2
        go_roundw
        case rel => exact ⟨k + 1, by omega, by go_num, fun j hj => by
                      by_cases e : j = k
                      · subst e; exact Hq.out
                      · exact HD.out j (by omega), Ext.trans HE.out HE1.out⟩
        case measure => simp [intOf]; omega
      · go_wp2
        go_ret
        exact ⟨⟨_, rfl, by rw [HR.out, anyB_yes hlt Hq.out]; exact decide_eq_true (Int.natCast_nonneg _)⟩, Ext.trans HE.out HE1.out⟩
    · obtain rfl : k = n := by omega
      clear hd hE
      go_wp2
      go_ret
      exact ⟨⟨_, rfl, by rw [HR.out, anyB_no HD.out]; rfl⟩, HE.out⟩

set_option maxHeartbeats 800000 in
theorem containsFuncS_any (F : Nat) (c : Value) (hF : ∀ (args : Array Value) (w : World), (callFunc F args).run Try.prog w = .ok (.enter F args) w) (p : Nat → Bool) (a : Option Addr) (b off n cap : Nat) (f : Nat → ByteArray) (w : World) (hs : SSeg w a b off n f) (hn : n ≤ 1048576)
    (HC : Hid (∀ i, i < n → ∀ W, Ext w W → Calls Try.prog F #[.string (f i), c] W fun e w' => e = .returned (.bool (p i)) ∧ Ext W w')) :
    Calls Try.prog 60 #[.slice a n cap, .func (.func F) #[] #[c]] w fun e w' => e = .returned (.bool (anyB p n)) ∧ Ext w w' := by
  have HX := hide (indexFuncS_any F c hF p a b off n cap f w hs hn HC)
  clear hs HC hF
  obtain ⟨R, hR⟩ : ∃ R, anyB p n = R := ⟨_, rfl⟩
  rw [hR] at HX ⊢
  clear hR
  go_enter Try.func60, Try.ntmps60
  go_wp2_with fail
  refine HX.out.mono ?_
  rintro e w1 ⟨⟨z, rfl, hz⟩, hE1⟩
  have HE1 := hide hE1
  clear hE1
  have Hz := hide hz
  clear hz
  go_wp2
  go_ret
  exact ⟨ret_bool Hz.out, HE1.out⟩

set_option maxHeartbeats 800000 in
theorem underSome1_any (b h : ByteArray) (B : Nat) (hb : b.size ≤ 2097152) (hh : h.size ≤ 2097152) (w : World) (hc : w.cell? ⟨B, 0, none⟩ = some (.string h)) :
    Calls Try.prog 61 #[.string b, .pointer (some ⟨B, 0, none⟩)] w fun e w' => e = .returned (.bool (undB b h)) ∧ Ext w w' := by
  have HX := hide (implUnder_any b h hb hh w)
  generalize undB b h = R at *
  go_enter Try.func61, Try.ntmps61
  go_wp2_with fail
  refine HX.out.mono ?_
  rintro e w1 ⟨rfl, hE1⟩
  have HE1 := hide hE1
  clear hE1
  go_wp2
  go_ret
  exact ⟨rfl, HE1.out⟩

/-- Whether the host is under one of these. -/
def undN (n : Nat) (f : Nat → ByteArray) (h : ByteArray) : Bool := anyB (fun i => undB (f i) h) n

set_option maxHeartbeats 1600000 in
theorem underSome_any (a : Option Addr) (b off n cap : Nat) (f : Nat → ByteArray) (h : ByteArray) (w : World) (hs : SSeg w a b off n f) (hn : n ≤ 1048576) (hf : ∀ i, i < n → (f i).size ≤ 1048576) (hh : h.size ≤ 1048576) :
    Calls Try.prog 31 #[.slice a n cap, .string h] w fun e w' => e = .returned (.bool (undN n f h)) ∧ Ext w w' := by
  obtain ⟨V, hV⟩ : ∃ V, w.alloc (.cells #[.string h] 9) = V := ⟨_, rfl⟩
  obtain ⟨B0, hE, hl⟩ := box1 w [.string h] 9 (w1 := V) (by rw [← hV]; exact Ext.refl _)
  have HB := hide B0
  have HE := hide hE
  have HX := hide (containsFuncS_any 61 (.pointer (some ⟨w.heap.size, 0, none⟩)) (fun _ _ => by kernel_rfl) (fun i => undB (f i) h) a b off n cap f V (hs.of_all hE) hn
    (hide fun i hi W hW => underSome1_any (f i) h w.heap.size (by have := hf i hi; omega) (by omega) W ((Blk.ext HB.out hW (by omega)) 0 _ rfl).1))
  have HR : Hid (undN n f h = anyB (fun i => undB (f i) h) n) := rfl
  rw [HR.out]
  generalize anyB (fun i => undB (f i) h) n = R at HX ⊢
  clear B0 hE hs hf hl HR
  go_enter Try.func31, Try.ntmps31
  go_wp2_with fail
  refine HX.out.mono ?_
  rintro e w1 ⟨rfl, hE1⟩
  have HE1 := hide hE1
  clear hE1
  go_wp2
  go_ret
  exact ⟨rfl, Ext.trans HE.out HE1.out⟩

/-- Whether extensions allow a host. -/
def alwB (x : Ex) (h : ByteArray) : Bool := hostB h && ((decide (x.na = 0) || undN x.na x.fa h) && !undN x.nd x.fd h)

set_option maxHeartbeats 3200000 in
theorem implAllowedBy_at (x : Ex) (m : ExPl) (h : ByteArray) (w : World) (hI : ExIn w x m) (hS : ExSm x 1048576) (hh : h.size ≤ 1048576) :
    Calls Try.prog 9 #[.agg (exL x m).toArray, .string h] w fun e w' => e = .returned (.bool (alwB x h)) ∧ Ext w w' := by
  obtain ⟨V, hV⟩ : ∃ V, w.alloc (.cells (exL x m).toArray 29) = V := ⟨_, rfl⟩
  obtain ⟨B0, hE, hl⟩ := box1 w (exL x m) 29 (w1 := V) (by rw [← hV]; exact Ext.refl _)
  have HB := hide B0
  have HE := hide hE
  have HI := hide (hI.ext hE)
  have HS := hide hS
  have HH := hide (implHostOk_any h (by omega) V)
  have HU : Hid (∀ W, Ext V W → Calls Try.prog 31 #[.slice m.a.ad x.na m.a.cap, .string h] W fun e w' => e = .returned (.bool (undN x.na x.fa h)) ∧ Ext W w') := fun W hW => underSome_any m.a.ad m.a.b m.a.off x.na m.a.cap x.fa h W (HI.out.a.of_all hW) HS.out.a HS.out.as' hh
  have HD : Hid (∀ W, Ext V W → Calls Try.prog 31 #[.slice m.d.ad x.nd m.d.cap, .string h] W fun e w' => e = .returned (.bool (undN x.nd x.fd h)) ∧ Ext W w') := fun W hW => underSome_any m.d.ad m.d.b m.d.off x.nd m.d.cap x.fd h W (HI.out.d.of_all hW) HS.out.d HS.out.ds hh
  have HV : Hid (alwB x h = (hostB h && ((decide (x.na = 0) || undN x.na x.fa h) && !undN x.nd x.fd h))) := rfl
  clear B0 hE hI hS hl hh
  go_enter Try.func9, Try.ntmps9
  go_wp2_with fail
  refine HH.out.mono ?_
  rintro e w1 ⟨rfl, hE1⟩
  clear HH
  replace HB := hide (Blk.ext HB.out hE1 (Blk.lt HB.out (by simp [exL])))
  have HX := hide hE1
  clear hE1
  cases e1 : hostB h
  · rw [e1] at HV
    go_wp2
    go_ret
    exact ⟨ret_bool (by rw [HV.out]; rfl), Ext.trans HE.out HX.out⟩
  rw [e1] at HV
  have c5 := (HB.out 5 _ rfl).1
  by_cases h0 : x.na = 0
  · rw [decide_eq_true h0] at HV
    have g0 : ((x.na : Int) == 0) = true := by rw [h0]; rfl
    have c6 := (HB.out 6 _ rfl).1
    have H0 := hide h0
    clear h0
    go_wp2_with fail
    refine (HD.out _ HX.out).mono ?_
    rintro e w2 ⟨rfl, hE2⟩
    have HX2 := hide hE2
    clear hE2
    generalize undN x.nd x.fd h = D at *
    go_wp2
    go_ret
    exact ⟨ret_bool (by rw [HV.out]; cases D <;> rfl), Ext.trans HE.out (Ext.trans HX.out HX2.out)⟩
  · rw [decide_eq_false h0] at HV
    have g0 : ((x.na : Int) == 0) = false := by simp; omega
    have H0 := hide h0
    clear h0
    go_wp2_with fail
    refine (HU.out _ HX.out).mono ?_
    rintro e w2 ⟨rfl, hE2⟩
    replace HB := hide (Blk.ext HB.out hE2 (Blk.lt HB.out (by simp [exL])))
    replace HX := hide (Ext.trans HX.out hE2)
    clear hE2 c5
    cases e2 : undN x.na x.fa h
    · rw [e2] at HV
      go_wp2
      go_ret
      exact ⟨ret_bool (by rw [HV.out]; rfl), Ext.trans HE.out HX.out⟩
    · rw [e2] at HV
      have c6 := (HB.out 6 _ rfl).1
      go_wp2_with fail
      refine (HD.out _ HX.out).mono ?_
      rintro e w3 ⟨rfl, hE3⟩
      have HX3 := hide hE3
      clear hE3
      generalize undN x.nd x.fd h = D at *
      go_wp2
      go_ret
      exact ⟨ret_bool (by rw [HV.out]; cases D <;> rfl), Ext.trans HE.out (Ext.trans HX.out HX3.out)⟩

theorem undN_succ (n : Nat) (f : Nat → ByteArray) (h : ByteArray) : undN (n + 1) f h = (undN n f h || undB (f n) h) := rfl

set_option maxHeartbeats 6400000 in
theorem specAllowedBy_at (x : Ex) (m : ExPl) (h : ByteArray) (w : World) (hI : ExIn w x m) (hS : ExSm x 1048576) (hh : h.size ≤ 1048576) :
    Calls Try.prog 7 #[.agg (exL x m).toArray, .string h] w fun e w' => e = .returned (.bool (alwB x h)) ∧ Ext w w' := by
  obtain ⟨V, hV⟩ : ∃ V, w.alloc (.cells (exL x m).toArray 29) = V := ⟨_, rfl⟩
  obtain ⟨B0, hE, hl⟩ := box1 w (exL x m) 29 (w1 := V) (by rw [← hV]; exact Ext.refl _)
  have HB := hide B0
  have HE := hide hE
  have HI := hide (hI.ext hE)
  have HS := hide hS
  have HH := hide (specHostOk_any h (by omega) V)
  have HUa : Hid (∀ i, i < x.na → ∀ W, Calls Try.prog 26 #[.string (x.fa i), .string h] W fun e w' => e = .returned (.bool (undB (x.fa i) h)) ∧ Ext W w') := fun i hi W => specUnder_any (x.fa i) h (by have := hS.as' i hi; omega) (by omega) W
  have HUd : Hid (∀ i, i < x.nd → ∀ W, Calls Try.prog 26 #[.string (x.fd i), .string h] W fun e w' => e = .returned (.bool (undB (x.fd i) h)) ∧ Ext W w') := fun i hi W => specUnder_any (x.fd i) h (by have := hS.ds i hi; omega) (by omega) W
  have HV : Hid (alwB x h = (hostB h && ((decide (x.na = 0) || undN x.na x.fa h) && !undN x.nd x.fd h))) := rfl
  have na1 := hS.a
  have nd1 := hS.d
  have HL := hide (Blk.lt HB.out (by simp [exL]))
  clear B0 hE hI hS hl hh
  go_enter Try.func7, Try.ntmps7
  go_wp2_with fail
  refine HH.out.mono ?_
  rintro e w1 ⟨rfl, hE1⟩
  clear HH
  have HX := hide hE1
  cases e1 : hostB h
  · rw [e1] at HV
    clear hE1
    go_wp2
    go_ret
    exact ⟨ret_bool (by rw [HV.out]; rfl), Ext.trans HE.out HX.out⟩
  rw [e1, Bool.true_and] at HV
  have c5 := ((Blk.ext HB.out hE1 HL.out) 5 _ rfl).1
  clear hE1
  have g0 : ((x.na : Int) == 0) = decide (x.na = 0) := by
    by_cases h0 : x.na = 0
    · rw [h0]; rfl
    · rw [decide_eq_false h0]; simp; omega
  obtain ⟨z0, hz0⟩ : ∃ z0, decide (x.na = 0) = z0 := ⟨_, rfl⟩
  rw [hz0] at HV g0
  clear hz0
  go_wp2
  clear c5 g0
  go_loopw [5, 6] (fun r i wr => ∃ k : Nat, k ≤ x.na ∧ i = .int .i64 (k : Int) ∧ r = .bool (z0 || undN k x.fa h) ∧ Ext V wr) (fun _ i _ => x.na - (intOf i).toNat)
  case atStart => exact ⟨0, Nat.zero_le _, rfl, by show _ = Value.bool (z0 || false); rw [Bool.or_false], HX.out⟩
  case round =>
    obtain ⟨k, hk, rfl, rfl, hX⟩ := hrel
    have c5 := ((Blk.ext HB.out hX HL.out) 5 _ rfl).1
    by_cases hlt : k < x.na
    · have hkn : (k : Int) < (x.na : Int) := by omega
      cases eq : (z0 || undN k x.fa h)
      · have hA := HI.out.a.of_all hX
        have cc := hA.cell k hlt
        have hat := hA.at' (by omega)
        rw [hat] at c5
        have HC := hide (HUa.out k hlt wr)
        have Hq := hide eq
        have HY := hide hX
        clear hX hA eq hat
        obtain ⟨q, hq⟩ : ∃ q, undB (x.fa k) h = q := ⟨_, rfl⟩
        rw [hq] at HC
        have Hqq := hide hq
        clear hq
        go_wp2_with fail
        refine HC.out.mono ?_
        rintro e w2 ⟨rfl, hE2⟩
        have HY2 := hide hE2
        clear hE2
        go_wp2
        go_roundw
        case rel => exact ⟨k + 1, by omega, by go_num, by rw [undN_succ, ← Bool.or_assoc, Hq.out, Hqq.out]; rfl, Ext.trans HY.out HY2.out⟩
        case measure => simp [intOf]; omega
      · have Hq := hide eq
        have HY := hide hX
        clear hX eq
        go_wp2
        go_roundw
        case rel => exact ⟨k + 1, by omega, by go_num, by rw [undN_succ, ← Bool.or_assoc, Hq.out]; rfl, HY.out⟩
        case measure => simp [intOf]; omega
    · obtain rfl : k = x.na := by omega
      have HX := hide hX
      clear hX
      generalize (z0 || undN x.na x.fa h) = A at *
      go_wp2
      clear c5
      go_loopw [7] (fun i wr => ∃ k : Nat, k ≤ x.nd ∧ i = .int .i64 (k : Int) ∧ (∀ j, j < k → undB (x.fd j) h = false) ∧ Ext V wr) (fun i _ => x.nd - (intOf i).toNat)
      case atStart => exact ⟨0, Nat.zero_le _, rfl, fun j hj => absurd hj (Nat.not_lt_zero _), HX.out⟩
      case round =>
        obtain ⟨k, hk, rfl, hd, hX⟩ := hrel
        have HD := hide hd
        clear hd
        have c6 := ((Blk.ext HB.out hX HL.out) 6 _ rfl).1
        by_cases hlt : k < x.nd
        · have hkn : (k : Int) < (x.nd : Int) := by omega
          have hA := HI.out.d.of_all hX
          have cc := hA.cell k hlt
          have hat := hA.at' (by omega)
          rw [hat] at c6
          have HC := hide (HUd.out k hlt wr)
          have HY := hide hX
          clear hX hA hat
          obtain ⟨q, hq⟩ : ∃ q, undB (x.fd k) h = q := ⟨_, rfl⟩
          rw [hq] at HC
          have Hqq := hide hq
          clear hq
          go_wp2_with fail
          refine HC.out.mono ?_
          rintro e w2 ⟨rfl, hE2⟩
          have HY2 := hide hE2
          clear hE2
          cases q
          · go_wp2
            go_roundw
            case rel => exact ⟨k + 1, by omega, by go_num, fun j hj => by
                          by_cases e : j = k
                          · subst e; exact Hqq.out
                          · exact HD.out j (by omega), Ext.trans HY.out HY2.out⟩
            case measure => simp [intOf]; omega
          · go_wp2
            go_ret
            exact ⟨ret_bool (by rw [HV.out, show undN x.nd x.fd h = true from anyB_yes hlt Hqq.out]; simp), Ext.trans HE.out (Ext.trans HY.out HY2.out)⟩
        · obtain rfl : k = x.nd := by omega
          have HY := hide hX
          clear hX
          go_wp2
          go_ret
          exact ⟨ret_bool (by rw [HV.out, show undN x.nd x.fd h = false from anyB_no HD.out]; simp), Ext.trans HE.out HY.out⟩

end Go.Proofs.Ytigjjkondbdgjaa
