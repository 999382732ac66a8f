/- Walks: a pair's bytes, by the program. Points told by bytes: what is read of them. Nothing of the program. Walks: bytes of a curve's elements (impl.Pair), written and read: what is handed to answered, and the face. What the program answers: EdBytes, EdRead. Walks: EdBytes and EdRead of the model. Walks: keys as trees: KeyTree of both. Lists of items that tell the same, as a law holds them against each other. Walks of the law's marks: markIntS writes k, k+1, .. into a slice that may be written; heldIntS finds them there. -/
import Derived.Test.YtnnandjphlajnaaGreatDoorKt18
import Derived.Test.YtnnandjphlajnaaGreatDoorKt39
import Derived.Test.YtnnandjphlajnaaGreatDoorKt44
import Derived.Test.YtnnandjphlajnaaGreatDoorKt10
import Derived.Test.YtnnandjphlajnaaGreatDoorKt11
import Derived.Test.YtnnandjphlajnaaGreatDoorKt01
import Derived.Test.YtnnandjphlajnaaGreatDoorKt06
import Derived.Test.YtnnandjphlajnaaGreatDoorKt16
import Derived.Test.YtnnandjphlajnaaGreatDoorKt28
import Derived.Test.YtnnandjphlajnaaGreatDoorKt29
import Derived.Test.YtnnandjphlajnaaGreatDoorKt23
import Derived.Test.YtnnandjphlajnaaGreatDoorKt34
import Derived.Test.YtnnandjphlajnaaGreatDoorKt35
import Derived.Test.YtnnandjphlajnaaGreatDoorKt37
import Derived.Test.YtnnandjphlajnaaGreatDoorKt41
import Derived.Test.YtnnandjphlajnaaGreatDoorKt43
import Derived.Test.YtnnandjphlajnaaGreatDoorKt03
import Derived.Test.YtnnandjphlajnaaGreatDoorChecked
namespace Go.Proofs.YtnnandjphlajnaaGreatDoor

section
set_option linter.unusedVariables false
set_option linter.unusedSimpArgs false

open Go.RowKit

theorem or_high {x q : Int} (h0 : 0 ≤ x) (h1 : x ≤ 127) (q0 : 0 ≤ q) (q1 : q ≤ 1) : bits .or .u8 x (q * 128) = x + 128 * q := by
  have h : ∀ n : Nat, n < 128 → ∀ m : Nat, m < 2 → bits .or .u8 (n : Int) ((m : Int) * 128) = (n : Int) + 128 * (m : Int) := by decide +kernel
  obtain ⟨n, rfl⟩ := Int.eq_ofNat_of_zero_le h0
  obtain ⟨m, rfl⟩ := Int.eq_ofNat_of_zero_le q0
  exact h n (by omega) m (by omega)

theorem byts_pr (a : Pr) : #[.int .u8 (a.y % 256), .int .u8 (a.y / 256 % 256), .int .u8 (a.y / 65536 + 128 * (a.x % 2))] = (byts (prByte a) 3).toArray := rfl

set_option maxHeartbeats 1600000 in
set_option maxRecDepth 100000 in
theorem pairBytes_any (a : Pr) (x0 : 0 ≤ a.x) (y0 : 0 ≤ a.y) (y1 : a.y ≤ 1048576) (w : World) : Calls Tryz.prog 105 #[.agg #[.int .i64 a.x, .int .i64 a.y]] w fun e w' => GivesBb w 3 (prByte a) e w' := by
  have HH := hide (fun w => highBytes_any a.y w y0 (by omega))
  have HP := hide (parityPr a x0)
  have HG : Hid (∀ e w', GivesBb w 3 (prByte a) e w' → GivesBb w 3 (prByte a) e w') := fun _ _ h => h
  have HE := hide (byts_pr a)
  obtain ⟨q, hq⟩ : ∃ q, a.x % 2 = q := ⟨_, rfl⟩
  have q0 : 0 ≤ q := by omega
  have q1 : q ≤ 1 := by omega
  have hor := or_high (x := a.y / 65536) (by omega) (by omega) q0 q1
  rw [hq] at HP HE
  have w1' : IntKind.u8.wrap (q * 128) = q * 128 := by simp [IntKind.wrap_u8]; omega
  have w2' : IntKind.i64.wrap (q * 128) = q * 128 := by rw [IntKind.wrap_i64]; omega
  have w3' : wrap64 (q * 128) = q * 128 := by unfold wrap64; omega
  obtain ⟨h0, hh0⟩ : ∃ h, a.y / 65536 = h := ⟨_, rfl⟩
  obtain ⟨h1, hh1⟩ : ∃ h, a.y / 256 % 256 = h := ⟨_, rfl⟩
  obtain ⟨h2, hh2⟩ : ∃ h, a.y % 256 = h := ⟨_, rfl⟩
  rw [hh0] at hor
  rw [hh0, hh1, hh2] at HH HE
  obtain ⟨Z, hZ⟩ : ∃ Z, h0 + 128 * q = Z := ⟨_, rfl⟩
  rw [hZ] at hor HE
  clear hq hh0 hh1 hh2 hZ x0 y0 y1
  go_enter Tryz.func105, Tryz.ntmps105
  go_wp2_with fail
  refine (HH.out _).mono ?_
  rintro e w1 ⟨rfl, hw1⟩
  obtain ⟨B1, hE, hz⟩ := box1 w [.int .i64 a.x, .int .i64 a.y] 40 hw1
  clear hw1 HH
  go_wp2
  obtain ⟨V, hV⟩ : ∃ V, w1.alloc (.cells #[.int .u8 h0, .int .u8 h1, .int .u8 h2] 205) = V := ⟨_, rfl⟩
  obtain ⟨B2, hE2, hz2⟩ := box1 w1 [.int .u8 h0, .int .u8 h1, .int .u8 h2] 205 (hV ▸ Ext.refl _ : Ext (w1.alloc (.cells #[.int .u8 h0, .int .u8 h1, .int .u8 h2] 205)) V)
  simp only [hV]
  replace B1 := B1.ext hE2 (by omega)
  replace hE := hE.trans hE2
  clear hV hE2
  generalize w1.heap.size = S at *
  obtain ⟨X, hX⟩ : ∃ X : Nat → Prop, X = fun _ => False := ⟨_, rfl⟩
  have x0 : ∀ k, k < V.heap.size → ¬ X k := fun k h => by rw [hX]; exact fun e => e
  clear hX
  have k0 := cell_reC (B1 0 _ rfl).1 (x0 _ (by first | omega | (simp only; omega)))
  have k1 := cell_reC (B1 1 _ rfl).1 (x0 _ (by first | omega | (simp only; omega)))
  have c0 := cell_reC (B2 0 _ rfl).1 (x0 _ (by first | omega | (simp only; omega)))
  have c1 := cell_reC (B2 1 _ rfl).1 (x0 _ (by first | omega | (simp only; omega)))
  have c2 := cell_reC (B2 2 _ rfl).1 (x0 _ (by first | omega | (simp only; omega)))
  refine anyK_begin X 13 rfl (by kernel_rfl) ?_
  refine anyK_take 0 11 2 rfl (by decide) (by kernel_rfl) (fun _ _ d _ _ h => by cases d <;> exact h) ?_
  repeat (refine headC_step (fun K hK => ?_); go_simp; first | (refine hK _ ?_; clear hK K) | (apply Exists.intro; refine ⟨fun _ => ?_, hK _ ?_⟩; (exact Calls.re_of (HP.out _)); clear hK K))
  refine headC_nil ?_
  clear k0 k1 c0 c1 c2 hor w1' w2' w3'
  refine anyK_one 11 (by kernel_rfl) ?_
  refine stepK_run rfl ?_
  intro w2 h2' K hK
  go_simp
  refine hK _ _ (.of_ext (h2'.trans (Ext.alloc _ _))) ?_
  clear hK K
  refine anyK_take 12 1 0 rfl (by decide) (by kernel_rfl) (fun _ _ d _ _ h => by cases d <;> exact h) ?_
  repeat (refine headC_step (fun K hK => ?_); go_simp; first | (refine hK _ ?_; clear hK K) | (apply Exists.intro; refine ⟨fun _ => ?_, hK _ ?_⟩; (fail); clear hK K))
  refine headC_nil ?_
  refine anyK_done (by kernel_rfl) ?_ 0
  intro w3 h3
  go_wp2
  go_ret
  exact HG.out _ _ (GivesBb.of (hE.trans h2') HE.out h3)
end

section
set_option linter.unusedVariables false

/-- Three bytes, the highest first. -/
def rd3 (f : Nat → Int) (o : Nat) : Int := f o * 65536 + f (o + 1) * 256 + f (o + 2)

/-- The point that these bytes tell. -/
def Reads (p : Nat) (A B : Int) (n : Nat) (f : Nat → Int) (c : Pt) : Prop :=
  (n = 1 ∧ f 0 = 0 ∧ c = farP) ∨ (n = 7 ∧ f 0 = 4 ∧ c = ⟨rd3 f 1, rd3 f 4, false⟩ ∧ On p A B c) ∨
  (n = 4 ∧ (f 0 = 2 ∨ f 0 = 3) ∧ c.far = false ∧ c.x = rd3 f 1 ∧ c.y % 2 = f 0 - 2 ∧ On p A B c)

theorem Aff.sq {P A B x y : Int} (hp : 0 < P) (h : Aff P.toNat A B x y) : y * y % P = (x * x * x + A * x + B) % P := by
  have e := h.on
  have : ((P.toNat : Nat) : Int) = P := by omega
  rw [this] at e
  exact mod_eq e

/-- Two roots by an odd prime number. -/
theorem two_roots_int {P y z : Int} (hp : Prime P.toNat) (hP : 0 < P) (y0 : 0 ≤ y) (y1 : y < P) (z0 : 0 ≤ z) (z1 : z < P) (e : y * y % P = z * z % P) : y = z ∨ y + z = P ∨ (y = 0 ∧ z = 0) := by
  obtain ⟨p, rfl⟩ := Int.eq_ofNat_of_zero_le (show 0 ≤ P by omega)
  obtain ⟨a, rfl⟩ := Int.eq_ofNat_of_zero_le y0
  obtain ⟨b, rfl⟩ := Int.eq_ofNat_of_zero_le z0
  rw [Int.toNat_natCast] at hp
  have := hp.two_roots (x := a) (y := b) (by omega) (by omega) (by exact_mod_cast e)
  omega

theorem same_y {P A B x y z : Int} (hp : Prime P.toNat) (h4 : P % 4 = 3) (hP : 5 ≤ P) (h : Aff P.toNat A B x y) (k : Aff P.toNat A B x z) (e : y % 2 = z % 2) : y = z := by
  have hh := h.y1; have hk := k.y1; have h0 := h.y0; have k0 := k.y0
  rcases two_roots_int hp (by omega) h.y0 (by omega) k.y0 (by omega) ((h.sq (by omega)).trans (k.sq (by omega)).symm) with h | h | h <;> omega

theorem Reads.unique {P A B : Int} {n : Nat} {f : Nat → Int} {c d : Pt} (hp : Prime P.toNat) (h4 : P % 4 = 3) (hP : 5 ≤ P) (h : Reads P.toNat A B n f c) (k : Reads P.toNat A B n f d) : c = d := by
  rcases h with ⟨n1, f1, rfl⟩ | ⟨n1, f1, rfl, o1⟩ | ⟨n1, f1, c1, x1, y1, o1⟩ <;> rcases k with ⟨n2, f2, rfl⟩ | ⟨n2, f2, rfl, o2⟩ | ⟨n2, f2, c2, x2, y2, o2⟩
  any_goals rfl
  any_goals omega
  have a1 := o1.aff c1
  have a2 := o2.aff c2
  rw [x1] at a1
  rw [x2] at a2
  exact Pt.ext' (x1.trans x2.symm) (same_y hp h4 hP a1 a2 (y1.trans y2.symm)) (c1.trans c2.symm)

/-- What a reading call answers. -/
def OptRd (P A B N gx gy : Int) (n : Nat) (f : Nat → Int) (c : Pt) (ok : Bool) : Prop :=
  (ok = true ∧ CvOk P A B N gx gy ∧ Reads P.toNat A B n f c) ∨ (ok = false ∧ (∀ c, CvOk P A B N gx gy → ¬ Reads P.toNat A B n f c) ∧ c = zeroP)

theorem OptRd.unique {P A B N gx gy : Int} {n : Nat} {f : Nat → Int} {c d : Pt} {ok ok' : Bool} (h : OptRd P A B N gx gy n f c ok) (k : OptRd P A B N gx gy n f d ok') : c = d ∧ ok = ok' := by
  rcases h with ⟨rfl, v, h⟩ | ⟨rfl, h, rfl⟩ <;> rcases k with ⟨rfl, v', k⟩ | ⟨rfl, k, rfl⟩
  · exact ⟨Reads.unique v.pp v.p4 v.p5 h k, rfl⟩
  · exact absurd h (k _ v)
  · exact absurd k (h _ v')
  · exact ⟨rfl, rfl⟩
end

section
set_option linter.unusedVariables false
set_option linter.unusedSimpArgs false

open Go.RowKit

theorem GivesBb.ex {w w' : World} {m : Nat} {F : Nat → Int} {e : Ending} (k : GivesBb w m F e w') : ∃ v, e = .returned v ∧ GivesBb w m F (.returned v) w' := by
  obtain ⟨g, rfl, h⟩ := k
  exact ⟨_, rfl, g, rfl, h⟩
end

section
set_option linter.unusedVariables false
set_option linter.unusedSimpArgs false

open Go.RowKit

/-- What EdBytes answers. -/
def GivesEB (P D L bx cy : Int) (a : Pr) (w : World) (e : Ending) (w' : World) : Prop :=
  ∃ ok : Bool, (ok = true ↔ EvOk P D L bx cy ∧ OnE P.toNat D a) ∧ GivesBt w (if ok then 3 else 0) (prByte a) ok e w'

/-- What a reading call answers. -/
def OptRdE (P D L bx cy : Int) (n : Nat) (f : Nat → Int) (c : Pr) (ok : Bool) : Prop :=
  (ok = true ∧ EvOk P D L bx cy ∧ ReadsE P.toNat D n f c) ∨ (ok = false ∧ (∀ c, EvOk P D L bx cy → ¬ ReadsE P.toNat D n f c) ∧ c = ⟨0, 0⟩)

theorem OptRdE.unique {P D L bx cy : Int} {n : Nat} {f : Nat → Int} {c d : Pr} {ok ok' : Bool} (h : OptRdE P D L bx cy n f c ok) (k : OptRdE P D L bx cy n f d ok') : c = d ∧ ok = ok' := by
  rcases h with ⟨rfl, v, h⟩ | ⟨rfl, h, rfl⟩ <;> rcases k with ⟨rfl, v', k⟩ | ⟨rfl, k, rfl⟩
  · exact ⟨ReadsE.unique v.edc h k, rfl⟩
  · exact absurd h (k _ v)
  · exact absurd k (h _ v')
  · exact ⟨rfl, rfl⟩
end

section
set_option linter.unusedVariables false
set_option linter.unusedSimpArgs false

open Go.RowKit Go.Sort

set_option maxHeartbeats 1600000 in
set_option maxRecDepth 100000 in
theorem specEdBytes_any (P D L bx cy : Int) (a : Pr) (w : World) (hP1 : P ≤ 9223372036854775807) (hL1 : L ≤ 9223372036854775807) :
    Calls Tryz.prog 96 #[.agg #[.int .i64 P, .int .i64 D, .int .i64 L, .int .i64 bx, .int .i64 cy], .agg #[.int .i64 a.x, .int .i64 a.y]] w fun e w' => GivesEB P D L bx cy a w e w' := by
  obtain ⟨ok, hok⟩ : ∃ ok : Bool, ok = true ↔ (EvOk P D L bx cy ∧ OnE P.toNat D a) := by
    by_cases h : EvOk P D L bx cy ∧ OnE P.toNat D a
    · exact ⟨true, fun _ => h, fun _ => rfl⟩
    · exact ⟨false, fun e => (by cases e), fun e => absurd e h⟩
  have HS := hide (specPairOk_at P D L bx cy a hP1 hL1 ok hok)
  have HG : Hid (∀ e w', GivesBt w (if ok then 3 else 0) (prByte a) ok e w' → GivesEB P D L bx cy a w e w') := fun e w' h => ⟨ok, hok, h⟩
  go_enter Tryz.func96, Tryz.ntmps96
  go_wp2_with fail
  refine (HS.out _).mono ?_
  rintro r w1 ⟨rfl, hw1⟩
  obtain ⟨B1, B2, hE, hz⟩ := box2 w [.int .i64 P, .int .i64 D, .int .i64 L, .int .i64 bx, .int .i64 cy] [.int .i64 a.x, .int .i64 a.y] 39 40 hw1
  clear hw1 HS
  cases ok
  · replace HG : Hid (∀ e w', GivesBt w 0 (prByte a) false e w' → GivesEB P D L bx cy a w e w') := HG
    clear hok
    go_wp2
    go_ret2
    exact HG.out _ _ ⟨_, w1.heap.size, _, rfl, Below.size hE, BOwn.nil _ _ _ _ _, hE.trans (Ext.alloc _ _), Nat.zero_le _, (Lies.new w1 #[]).owns (Below.size hE) rfl (by decide)⟩
  · replace HG : Hid (∀ e w', GivesBt w 3 (prByte a) true e w' → GivesEB P D L bx cy a w e w') := HG
    have hk := hok.1 rfl
    have hM := hk.1.pM; have x0 := hk.2.x0; have y0 := hk.2.y0; have y1 := hk.2.y1
    have yM : a.y ≤ 1048576 := by omega
    have HE := hide (byts_pr a)
    clear hok hk
    obtain ⟨q, hq⟩ : ∃ q, a.x % 2 = q := ⟨_, rfl⟩
    have q0 : 0 ≤ q := by omega
    have q1 : q ≤ 1 := by omega
    have hq' : Int.tmod a.x 2 = q := by rw [Int.tmod_eq_emod_of_nonneg x0]; exact hq
    obtain ⟨h, hh⟩ : ∃ h, a.y / 65536 = h := ⟨_, rfl⟩
    have h0 : 0 ≤ h := by omega
    have h1 : h ≤ 16 := by omega
    rw [hq, hh] at HE
    have r1 : IntKind.i64.wrap (128 * q) = 128 * q := by rw [IntKind.wrap_i64]; omega
    have r1' : wrap64 (128 * q) = 128 * q := by unfold wrap64; omega
    have r2 : IntKind.i64.wrap (h + 128 * q) = h + 128 * q := by rw [IntKind.wrap_i64]; omega
    have r2' : wrap64 (h + 128 * q) = h + 128 * q := by unfold wrap64; omega
    have r3 : IntKind.u8.wrap (h + 128 * q) = h + 128 * q := by simp [IntKind.wrap_u8]; omega
    have r3' : (h + 128 * q) % 256 = h + 128 * q := by omega
    have k0 := (B2 0 _ rfl).1
    have k1 := (B2 1 _ rfl).1
    clear hq y1 hM
    go_wp2
    go_ret2
    have O := (Lies.new w1 #[.int .u8 (a.y % 256), .int .u8 (a.y / 256 % 256), .int .u8 (h + 128 * q)]).owns (Nat.le_refl _) rfl (show 3 ≤ maxLen by decide)
    exact HG.out _ _ (givesBs_of_owns O (Below.size hE) (congrArg Array.toList HE.out) (hE.trans (Ext.alloc _ _)))
end

section
set_option linter.unusedVariables false
set_option linter.unusedSimpArgs false

open Go.RowKit

/-- What a key's tree tells. -/
def keyC (k : Ky) : List Ic := if k.kind = 1 then rsaC k else if k.kind = 2 then cvC k else edC k

theorem rs_facts {k : Ky} (h : rsB k.n k.f k.e = true) : natOk k.n k.f = true ∧ 0 < k.n ∧ bitsOf k.n k.f ≤ 512 ∧ 0 ≤ k.e ∧ k.e ≤ 65537 := by
  unfold rsB at h
  simp only [Bool.and_eq_true, decide_eq_true_eq] at h
  obtain ⟨h1, h2, -, h3, h4, -⟩ := h
  obtain ⟨a, b, -, -, c⟩ := bitsQ_pos h1
  exact ⟨a, b, by omega, by omega, h4⟩

theorem cv_facts {k : Ky} (h : CkOk k) : (∀ z ∈ [2, k.cP, k.cA, k.cB, k.cN, k.cX, k.cY], -9223372036854775808 ≤ z ∧ z ≤ 9223372036854775807) ∧ 0 ≤ k.q.x ∧ k.q.x ≤ 16777215 ∧ 0 ≤ k.q.y ∧ k.q.y ≤ 16777215 ∧ k.q.far = false := by
  obtain ⟨⟨hc, ho⟩, hf, -⟩ := h
  have hg : Aff k.cP.toNat k.cA k.cB k.cX k.cY := by
    rcases hc.g with h | h
    · exact absurd h.1 (by simp)
    · exact h.2
  have hq : Aff k.cP.toNat k.cA k.cB k.q.x k.q.y := by
    rcases ho with h | h
    · rw [hf] at h; exact absurd h.1 (by simp)
    · exact h.2
  have := hc.p5; have := hc.pM; have := hc.a0; have := hc.a1; have := hc.b0; have := hc.b1; have := hc.n5; have := hc.nM
  have := hg.x0; have := hg.x1; have := hg.y0; have := hg.y1
  have := hq.x0; have := hq.x1; have := hq.y0; have := hq.y1
  refine ⟨fun z hz => ?_, by omega, by omega, by omega, by omega, hf⟩
  simp only [List.mem_cons, List.not_mem_nil, or_false] at hz
  rcases hz with rfl | rfl | rfl | rfl | rfl | rfl | rfl <;> omega

theorem ed_facts {k : Ky} (h : EkOk k) : (∀ z ∈ [3, k.dP, k.dD, k.dL, k.dX, k.dY], -9223372036854775808 ≤ z ∧ z ≤ 9223372036854775807) ∧ 0 ≤ k.a.x ∧ 0 ≤ k.a.y ∧ k.a.y ≤ 1048576 := by
  obtain ⟨hc, ho⟩ := h
  have hg := hc.on
  have := hc.p13; have := hc.pM; have := hc.d2; have := hc.d1; have := hc.l5; have := hc.lM
  have g1 : 0 ≤ k.dX := hg.x0
  have g2 : k.dX < k.dP.toNat := hg.x1
  have g3 : 0 ≤ k.dY := hg.y0
  have g4 : k.dY < k.dP.toNat := hg.y1
  have := ho.x0; have := ho.x1; have := ho.y0; have := ho.y1
  refine ⟨fun z hz => ?_, by omega, by omega, by omega⟩
  simp only [List.mem_cons, List.not_mem_nil, or_false] at hz
  rcases hz with rfl | rfl | rfl | rfl | rfl | rfl <;> omega

theorem l10Key_any (k : Ky) (ad : Option Addr) (b off cap : Nat) (w : World) (hs : Seg w ad b off k.n k.f) (hp : KeyP k) :
    Calls Tryz.prog 38 #[.agg #[.int .i64 k.kind, .slice ad k.n cap, .int .i64 k.e, .int .i64 k.cP, .int .i64 k.cA, .int .i64 k.cB, .int .i64 k.cN, .int .i64 k.cX, .int .i64 k.cY, .int .i64 k.q.x, .int .i64 k.q.y, .bool k.q.far, .int .i64 k.dP, .int .i64 k.dD, .int .i64 k.dL, .int .i64 k.dX, .int .i64 k.dY, .int .i64 k.a.x, .int .i64 k.a.y]] w fun e w' => GivesIs w.heap.size w (keyC k) e w' := by
  rcases hp with ⟨h1, -, -, h⟩ | ⟨h2, -, -, h⟩ | ⟨h3, -, -, h⟩
  · obtain ⟨a1, a2, a3, a4⟩ := rs_facts h
    unfold keyC
    rw [if_pos h1]
    exact l10Key_rsa k ad b off cap w hs h1 a1 a2 a3 a4
  · obtain ⟨f1, f2, f3, f4, f5, f6⟩ := cv_facts h
    unfold keyC
    rw [if_neg (by omega), if_pos h2]
    refine l10Key_cv k ad b off cap w (by simp; omega) (by simp [h2]) (hide fun W => ?_) f1
    have := h.1.1.pM; have := h.1.1.nM
    refine (specPointBytes_any k.cP k.cA k.cB k.cN k.cX k.cY k.q false W (by omega) (by omega)).mono ?_
    rintro e w' ⟨ok, hok, hg⟩
    rw [hok.2 h.1] at hg
    unfold ptLen at hg
    rw [if_pos rfl, f6] at hg
    exact hg
  · obtain ⟨f1, f2, f3, f4⟩ := ed_facts h
    unfold keyC
    rw [if_neg (by omega), if_neg (by omega)]
    refine l10Key_ed k ad b off cap w (by simp; omega) (by simp; omega) (hide fun W => ?_) f1
    have := h.1.pM; have := h.1.lM
    refine (specEdBytes_any k.dP k.dD k.dL k.dX k.dY k.a W (by omega) (by omega)).mono ?_
    rintro e w' ⟨ok, hok, hg⟩
    rw [hok.2 h] at hg
    exact hg

theorem keyPiece_any (k : Ky) (ad : Option Addr) (b off cap : Nat) (w : World) (hs : Seg w ad b off k.n k.f) (hp : KeyP k) :
    Calls Tryz.prog 45 #[.agg #[.int .i64 k.kind, .slice ad k.n cap, .int .i64 k.e, .int .i64 k.cP, .int .i64 k.cA, .int .i64 k.cB, .int .i64 k.cN, .int .i64 k.cX, .int .i64 k.cY, .int .i64 k.q.x, .int .i64 k.q.y, .bool k.q.far, .int .i64 k.dP, .int .i64 k.dD, .int .i64 k.dL, .int .i64 k.dX, .int .i64 k.dY, .int .i64 k.a.x, .int .i64 k.a.y]] w fun e w' => GivesPc w (keyC k) e w' := by
  rcases hp with ⟨h1, -, -, h⟩ | ⟨h2, -, -, h⟩ | ⟨h3, -, -, h⟩
  · obtain ⟨a1, a2, a3, a4⟩ := rs_facts h
    unfold keyC
    rw [if_pos h1]
    exact keyPiece_rsa k ad b off cap w hs h1 a1 a3 a4
  · obtain ⟨f1, f2, f3, f4, f5, f6⟩ := cv_facts h
    unfold keyC
    rw [if_neg (by omega), if_pos h2]
    refine keyPiece_cv k ad b off cap w (by simp; omega) (by simp [h2]) (hide fun W => ?_) f1
    have hq : k.q = ⟨k.q.x, k.q.y, false⟩ := by
      rcases hkq : k.q with ⟨x, y, far⟩
      rw [hkq] at f6
      simp only at f6
      rw [f6]
    rw [f6, hq]
    exact (pointBytes_long k.q.x k.q.y f2 f3 f4 f5 W).mono (fun _ _ h => h.z)
  · obtain ⟨f1, f2, f3, f4⟩ := ed_facts h
    unfold keyC
    rw [if_neg (by omega), if_neg (by omega)]
    exact keyPiece_ed k ad b off cap w (by simp; omega) (by simp; omega) (hide fun W => (pairBytes_any k.a f2 f3 f4 W).mono (fun _ _ h => h.z)) f1

/-- A new list of items that tell C, and ok. -/
def GivesKt (w : World) (C : List Ic) (ok : Bool) (e : Ending) (w' : World) : Prop := ∃ v L, e = .returned (.tuple #[v, .bool ok]) ∧ LAcc w.heap.size w' v L ∧ L.map ct = C ∧ Ext w w'

def ktC (ok : Bool) (k : Ky) : List Ic := if ok then keyC k else []

set_option maxHeartbeats 1600000 in
set_option maxRecDepth 100000 in
theorem specKeyTree_at (k : Ky) (ad : Option Addr) (b off cap : Nat) (ok : Bool) (hk : ok = true ↔ KeyP k) (w : World) (hs : Seg w ad b off k.n k.f) (hI : KyIn k) :
    Calls Tryz.prog 10 #[.agg #[.int .i64 k.kind, .slice ad k.n cap, .int .i64 k.e, .int .i64 k.cP, .int .i64 k.cA, .int .i64 k.cB, .int .i64 k.cN, .int .i64 k.cX, .int .i64 k.cY, .int .i64 k.q.x, .int .i64 k.q.y, .bool k.q.far, .int .i64 k.dP, .int .i64 k.dD, .int .i64 k.dL, .int .i64 k.dX, .int .i64 k.dY, .int .i64 k.a.x, .int .i64 k.a.y]] w fun e w' => GivesKt w (ktC ok k) ok e w' := by
  obtain ⟨V, hV⟩ : ∃ V, w.alloc (.cells #[.int .i64 k.kind, .slice ad k.n cap, .int .i64 k.e, .int .i64 k.cP, .int .i64 k.cA, .int .i64 k.cB, .int .i64 k.cN, .int .i64 k.cX, .int .i64 k.cY, .int .i64 k.q.x, .int .i64 k.q.y, .bool k.q.far, .int .i64 k.dP, .int .i64 k.dD, .int .i64 k.dL, .int .i64 k.dX, .int .i64 k.dY, .int .i64 k.a.x, .int .i64 k.a.y] 42) = V := ⟨_, rfl⟩
  obtain ⟨B0, hE, -⟩ := box1 w [.int .i64 k.kind, .slice ad k.n cap, .int .i64 k.e, .int .i64 k.cP, .int .i64 k.cA, .int .i64 k.cB, .int .i64 k.cN, .int .i64 k.cX, .int .i64 k.cY, .int .i64 k.q.x, .int .i64 k.q.y, .bool k.q.far, .int .i64 k.dP, .int .i64 k.dD, .int .i64 k.dL, .int .i64 k.dX, .int .i64 k.dY, .int .i64 k.a.x, .int .i64 k.a.y] 42 (w1 := V) (by rw [hV]; exact Ext.refl _)
  have HA := hide B0
  have HE := hide hE
  have HK := hide (specKeyOk_at k ad b off cap ok hk V (hs.of_all hE) hI)
  have HL : Hid (ok = true → ∀ W, Ext w W → Calls Tryz.prog 38 #[.agg #[.int .i64 k.kind, .slice ad k.n cap, .int .i64 k.e, .int .i64 k.cP, .int .i64 k.cA, .int .i64 k.cB, .int .i64 k.cN, .int .i64 k.cX, .int .i64 k.cY, .int .i64 k.q.x, .int .i64 k.q.y, .bool k.q.far, .int .i64 k.dP, .int .i64 k.dD, .int .i64 k.dL, .int .i64 k.dX, .int .i64 k.dY, .int .i64 k.a.x, .int .i64 k.a.y]] W fun e w' => GivesIs W.heap.size W (keyC k) e w') := fun h W e => l10Key_any k ad b off cap W (hs.of_all e) (hk.1 h)
  have hldA := run_loadKey [.int .i64 k.kind, .slice ad k.n cap, .int .i64 k.e, .int .i64 k.cP, .int .i64 k.cA, .int .i64 k.cB, .int .i64 k.cN, .int .i64 k.cX, .int .i64 k.cY, .int .i64 k.q.x, .int .i64 k.q.y, .bool k.q.far, .int .i64 k.dP, .int .i64 k.dD, .int .i64 k.dL, .int .i64 k.dX, .int .i64 k.dY, .int .i64 k.a.x, .int .i64 k.a.y] rfl w.heap.size V (fun j v h => (B0 j v h).1)
  clear B0 hE hs hk hI
  go_enter Tryz.func10, Tryz.ntmps10
  go_wp2_with (refine wpList_load_on (by first | rfl | simp [Region.wanted, yielded]) 42 _ rfl ⟨w.heap.size, 0, none⟩ rfl _ hldA ?_)
  refine HK.out.mono ?_
  rintro e w1 ⟨rfl, hE1⟩
  have HB1 := Blk.ext HA.out hE1 (World.block_lt_of_cell? _ _ (HA.out 0 _ rfl).1)
  have hldB := run_loadKey [.int .i64 k.kind, .slice ad k.n cap, .int .i64 k.e, .int .i64 k.cP, .int .i64 k.cA, .int .i64 k.cB, .int .i64 k.cN, .int .i64 k.cX, .int .i64 k.cY, .int .i64 k.q.x, .int .i64 k.q.y, .bool k.q.far, .int .i64 k.dP, .int .i64 k.dD, .int .i64 k.dL, .int .i64 k.dX, .int .i64 k.dY, .int .i64 k.a.x, .int .i64 k.a.y] rfl w.heap.size w1 (fun j v h => (HB1 j v h).1)
  replace HE := hide (HE.out.trans hE1)
  clear hldA HK hE1 HB1 HA
  cases ok
  · clear hldB
    go_wp2
    go_ret2
    exact ⟨_, _, rfl, LAcc.nil w1 w.heap.size (Below.size HE.out), rfl, HE.out.trans (Ext.alloc _ _)⟩
  · have HL2 := hide (HL.out rfl w1 HE.out)
    clear HL
    go_wp2_with (refine wpList_load_on (by first | rfl | simp [Region.wanted, yielded]) 42 _ rfl ⟨w.heap.size, 0, none⟩ rfl _ hldB ?_)
    refine HL2.out.mono ?_
    rintro e2 w2 ⟨v2, L2, rfl, h2, h2c, h2E⟩
    have H2 := hide h2
    have H2c := hide h2c
    have H2E := hide h2E
    clear h2 h2c h2E hldB
    go_wp2
    go_ret2
    exact ⟨_, _, rfl, H2.out.low (Below.size HE.out), H2c.out, HE.out.trans H2E.out⟩

set_option maxHeartbeats 1600000 in
set_option maxRecDepth 100000 in
theorem implKeyTree_at (k : Ky) (ad : Option Addr) (b off cap : Nat) (ok : Bool) (hk : ok = true ↔ KeyP k) (w : World) (hs : Seg w ad b off k.n k.f) (hI : KyIn k) :
    Calls Tryz.prog 12 #[.agg #[.int .i64 k.kind, .slice ad k.n cap, .int .i64 k.e, .int .i64 k.cP, .int .i64 k.cA, .int .i64 k.cB, .int .i64 k.cN, .int .i64 k.cX, .int .i64 k.cY, .int .i64 k.q.x, .int .i64 k.q.y, .bool k.q.far, .int .i64 k.dP, .int .i64 k.dD, .int .i64 k.dL, .int .i64 k.dX, .int .i64 k.dY, .int .i64 k.a.x, .int .i64 k.a.y]] w fun e w' => GivesKt w (ktC ok k) ok e w' := by
  obtain ⟨V, hV⟩ : ∃ V, w.alloc (.cells #[.int .i64 k.kind, .slice ad k.n cap, .int .i64 k.e, .int .i64 k.cP, .int .i64 k.cA, .int .i64 k.cB, .int .i64 k.cN, .int .i64 k.cX, .int .i64 k.cY, .int .i64 k.q.x, .int .i64 k.q.y, .bool k.q.far, .int .i64 k.dP, .int .i64 k.dD, .int .i64 k.dL, .int .i64 k.dX, .int .i64 k.dY, .int .i64 k.a.x, .int .i64 k.a.y] 42) = V := ⟨_, rfl⟩
  obtain ⟨B0, hE, -⟩ := box1 w [.int .i64 k.kind, .slice ad k.n cap, .int .i64 k.e, .int .i64 k.cP, .int .i64 k.cA, .int .i64 k.cB, .int .i64 k.cN, .int .i64 k.cX, .int .i64 k.cY, .int .i64 k.q.x, .int .i64 k.q.y, .bool k.q.far, .int .i64 k.dP, .int .i64 k.dD, .int .i64 k.dL, .int .i64 k.dX, .int .i64 k.dY, .int .i64 k.a.x, .int .i64 k.a.y] 42 (w1 := V) (by rw [hV]; exact Ext.refl _)
  have HA := hide B0
  have HE := hide hE
  have HK := hide (implKeyOk_at k ad b off cap ok hk V (hs.of_all hE) hI)
  have HL : Hid (ok = true → ∀ W, Ext w W → Calls Tryz.prog 45 #[.agg #[.int .i64 k.kind, .slice ad k.n cap, .int .i64 k.e, .int .i64 k.cP, .int .i64 k.cA, .int .i64 k.cB, .int .i64 k.cN, .int .i64 k.cX, .int .i64 k.cY, .int .i64 k.q.x, .int .i64 k.q.y, .bool k.q.far, .int .i64 k.dP, .int .i64 k.dD, .int .i64 k.dL, .int .i64 k.dX, .int .i64 k.dY, .int .i64 k.a.x, .int .i64 k.a.y]] W fun e w' => GivesPc W (keyC k) e w') := fun h W e => keyPiece_any k ad b off cap W (hs.of_all e) (hk.1 h)
  have hldA := run_loadKey [.int .i64 k.kind, .slice ad k.n cap, .int .i64 k.e, .int .i64 k.cP, .int .i64 k.cA, .int .i64 k.cB, .int .i64 k.cN, .int .i64 k.cX, .int .i64 k.cY, .int .i64 k.q.x, .int .i64 k.q.y, .bool k.q.far, .int .i64 k.dP, .int .i64 k.dD, .int .i64 k.dL, .int .i64 k.dX, .int .i64 k.dY, .int .i64 k.a.x, .int .i64 k.a.y] rfl w.heap.size V (fun j v h => (B0 j v h).1)
  clear B0 hE hs hk hI
  go_enter Tryz.func12, Tryz.ntmps12
  go_wp2_with (refine wpList_load_on (by first | rfl | simp [Region.wanted, yielded]) 42 _ rfl ⟨w.heap.size, 0, none⟩ rfl _ hldA ?_)
  refine HK.out.mono ?_
  rintro e w1 ⟨rfl, hE1⟩
  have HB1 := Blk.ext HA.out hE1 (World.block_lt_of_cell? _ _ (HA.out 0 _ rfl).1)
  have hldB := run_loadKey [.int .i64 k.kind, .slice ad k.n cap, .int .i64 k.e, .int .i64 k.cP, .int .i64 k.cA, .int .i64 k.cB, .int .i64 k.cN, .int .i64 k.cX, .int .i64 k.cY, .int .i64 k.q.x, .int .i64 k.q.y, .bool k.q.far, .int .i64 k.dP, .int .i64 k.dD, .int .i64 k.dL, .int .i64 k.dX, .int .i64 k.dY, .int .i64 k.a.x, .int .i64 k.a.y] rfl w.heap.size w1 (fun j v h => (HB1 j v h).1)
  replace HE := hide (HE.out.trans hE1)
  clear hldA HK hE1 HB1 HA
  cases ok
  · clear hldB
    go_wp2
    go_ret2
    exact ⟨_, _, rfl, LAcc.nil w1 w.heap.size (Below.size HE.out), rfl, HE.out.trans (Ext.alloc _ _)⟩
  · have HL2 := hide (HL.out rfl w1 HE.out)
    clear HL
    go_wp2_with (refine wpList_load_on (by first | rfl | simp [Region.wanted, yielded]) 42 _ rfl ⟨w.heap.size, 0, none⟩ rfl _ hldB ?_)
    refine HL2.out.mono ?_
    rintro e2 w2 ⟨v2, L2, rfl, h2, h2c, h2E⟩
    have H2 := hide h2
    have H2c := hide h2c
    have H2E := hide h2E
    obtain ⟨tg, aa, nn, cc, h | h⟩ := h2.its w2 (Agr.refl _ _ _)
    · obtain ⟨rfl, hcl⟩ := h
      have HCl := hide hcl
      have hm := @Tryz.methLeaf tg aa nn cc
      clear h2 h2c h2E hldB hcl
      go_wp2_with fail
      refine HCl.out.mono ?_
      rintro e3 w3 ⟨u3, rfl, h3, h3E⟩
      have H3 := hide h3
      have H3E := hide h3E
      clear h3 h3E hm
      go_wp2
      go_ret2
      refine ⟨_, L2, rfl, ⟨ownsRow_low H3.out (Nat.le_trans (Below.size HE.out) (Below.size H2E.out)), (H2.out.bods.low (Below.size HE.out)).ext H3E.out, fun t ht h0 hh => ?_⟩, H2c.out, HE.out.trans (H2E.out.trans H3E.out)⟩
      have h5 := (H3.out.lt _ hh).1
      have h6 := H2.out.bods.lt ht h0
      omega
    · obtain ⟨rfl, hcl⟩ := h
      have HCl := hide hcl
      have hm := @Tryz.methKnot tg aa nn cc
      clear h2 h2c h2E hldB hcl
      go_wp2_with fail
      refine HCl.out.mono ?_
      rintro e3 w3 ⟨u3, rfl, h3, h3E⟩
      have H3 := hide h3
      have H3E := hide h3E
      clear h3 h3E hm
      go_wp2
      go_ret2
      refine ⟨_, L2, rfl, ⟨ownsRow_low H3.out (Nat.le_trans (Below.size HE.out) (Below.size H2E.out)), (H2.out.bods.low (Below.size HE.out)).ext H3E.out, fun t ht h0 hh => ?_⟩, H2c.out, HE.out.trans (H2E.out.trans H3E.out)⟩
      have h5 := (H3.out.lt _ hh).1
      have h6 := H2.out.bods.lt ht h0
      omega
end

section
set_option linter.unusedVariables false
set_option linter.unusedSimpArgs false

open Go.RowKit

/-- These items tell just that. -/
def SameC (L : List It) (C : List Ic) : Prop := L.map ct = C ∧ ∀ t ∈ L, Nf t

theorem SameC.len {L : List It} {C : List Ic} (h : SameC L C) : L.length = C.length := map_len h.1

theorem SameC.at' {L : List It} {C : List Ic} (h : SameC L C) {i : Nat} (hi : i < C.length) : L.getD i dI ∈ L ∧ ct (L.getD i dI) = C[i] := by
  have hl := h.len
  have e : L.getD i dI = L[i]'(by omega) := by rw [List.getD_eq_getElem?_getD, List.getElem?_eq_getElem (by omega)]; rfl
  refine ⟨by rw [e]; exact List.getElem_mem _, ?_⟩
  rw [e]
  have := congrArg (fun l => l[i]?) h.1
  simp only [List.getElem?_map] at this
  rw [List.getElem?_eq_getElem (by omega), List.getElem?_eq_getElem hi] at this
  simpa using this

theorem itsEq_C {L L' : List It} {C : List Ic} (h : SameC L C) (h' : SameC L' C) : itsEq (fun i => L.getD i dI) (fun i => L'.getD i dI) C.length = true := itsEq_yes (fun i hi => by
  obtain ⟨m1, e1⟩ := h.at' hi
  obtain ⟨m2, e2⟩ := h'.at' hi
  obtain ⟨a, b, c, d⟩ := ct_same (h.2 _ m1) (h'.2 _ m2) (e1.trans e2.symm)
  show (_ == _ && (_ == _ && _) && _ == _) = true
  rw [a, b, c, d]
  simp [(alike_iff _ _ _).2 (fun _ _ => rfl)])

theorem LAcc.iow {B : Nat} {W : World} {v : Value} {L : List It} (h : LAcc B W v L) (hs : ∀ t ∈ L, t.len ≤ 9223372036854775807) : ∃ a S cap, v = .slice a L.length cap ∧ IOw B W a S 0 L.length (fun i => L.getD i dI) := by
  have hg : ∀ i, i < L.length → L.getD i dI ∈ L := fun i hi => by
    rw [List.getD_eq_getElem?_getD, List.getElem?_eq_getElem hi]
    exact List.getElem_mem _
  have hp := List.pairwise_iff_getElem.1 h.bods.apart
  have hd : ∀ i (hi : i < L.length), L.getD i dI = L[i] := fun i hi => by rw [List.getD_eq_getElem?_getD, List.getElem?_eq_getElem hi]; rfl
  have hA : IAcc B W v L.length (fun i => L.getD i dI) := by
    refine ⟨by rw [itsW_rowL]; exact h.row, fun i hi => h.bods.own _ (hg i hi), fun i hi h0 => ⟨h.away _ (hg i hi) h0, h.bods.up _ (hg i hi) h0⟩, fun i j hi hj hij h0 h1 => ?_⟩
    simp only [hd i hi, hd j hj] at h0 h1 ⊢
    rcases Nat.lt_or_gt_of_ne hij with c | c
    · exact hp i j hi hj c h0 h1
    · exact fun e => hp j i hj hi c h1 h0 e.symm
  exact hA.iow (fun i hi => hs _ (hg i hi))

/-- A new list of items that tell C, and ok. -/
def GivesK7 (w : World) (C : List Ic) (ok : Bool) (e : Ending) (w' : World) : Prop := ∃ a S cap L, e = .returned (.tuple #[.slice a C.length cap, .bool ok]) ∧ IOw w.heap.size w' a S 0 C.length (fun i => L.getD i dI) ∧ SameC L C ∧ Ext w w'

/-- Few, and short. -/
def SmC (C : List Ic) : Prop := C.length ≤ 100 ∧ ∀ c ∈ C, c.bd.length ≤ 1000

theorem ct_len (t : It) : (ct t).bd.length = t.len := by simp [ct]

theorem GivesKt.k7 {w w' : World} {C : List Ic} {ok : Bool} {e : Ending} (h : GivesKt w C ok e w') (hC : SmC C) : GivesK7 w C ok e w' := by
  obtain ⟨v, L, rfl, hA, hc, hE⟩ := h
  obtain ⟨a, S, cap, rfl, hI⟩ := hA.iow (fun t ht => by
    have h1 : ct t ∈ C := by rw [← hc]; exact List.mem_map.2 ⟨t, ht, rfl⟩
    have := hC.2 _ h1
    rw [ct_len] at this
    omega)
  have hl := map_len hc
  rw [hl] at hI
  exact ⟨a, S, cap, L, by rw [hl], hI, ⟨hc, hA.bods.nf⟩, hE⟩

theorem SameC.small {L : List It} {C : List Ic} (h : SameC L C) (hC : SmC C) : (∀ i, i < C.length → (L.getD i dI).len ≤ 1048576) ∧ sumL (fun i => L.getD i dI) C.length ≤ 1048576 := by
  have h1 : ∀ i, i < C.length → (L.getD i dI).len ≤ 1000 := fun i hi => by
    obtain ⟨-, e⟩ := h.at' hi
    rw [← ct_len, e]
    exact hC.2 _ (List.getElem_mem _)
  have h2 : ∀ m, m ≤ C.length → sumL (fun i => L.getD i dI) m ≤ m * 1000 := by
    intro m
    induction m with
    | zero => intro _; exact Nat.le_refl _
    | succ m ih =>
      intro hm
      have := ih (by omega)
      have := h1 m (by omega)
      show sumL _ m + (L.getD m dI).len ≤ _
      omega
  refine ⟨fun i hi => by have := h1 i hi; omega, ?_⟩
  have := h2 C.length (Nat.le_refl _)
  have := hC.1
  omega

theorem ISeg.of_blkK {w w' : World} {a : Option Addr} {b off n : Nat} {x : Nat → It} (h : ISeg w a b off n x) (hb : 0 < n → w'.heap[b]? = w.heap[b]?) (hy : ∀ i, i < n → 0 < (x i).len → w'.heap[(x i).blk]? = w.heap[(x i).blk]?) : ISeg w' a b off n x :=
  ⟨h.at', fun i hi => (World.cell?_of_block (a := ⟨b, off + i * 3, none⟩) (hb (by omega))).trans (h.c0 i hi), fun i hi => (World.cell?_of_block (a := ⟨b, off + i * 3 + 1, none⟩) (hb (by omega))).trans (h.c1 i hi), fun i hi => (World.cell?_of_block (a := ⟨b, off + i * 3 + 2, none⟩) (hb (by omega))).trans (h.c2 i hi),
   fun i hi => ⟨(h.body i hi).at', fun j hj => (World.cell?_of_block (a := ⟨(x i).blk, (x i).off + j, none⟩) (hy i hi (by omega))).trans ((h.body i hi).cell j hj)⟩, h.small⟩

theorem IOw.of_blkK {B : Nat} {w w' : World} {a : Option Addr} {S off n : Nat} {x : Nat → It} (h : IOw B w a S off n x) (hb : 0 < n → w'.heap[S]? = w.heap[S]?) (hy : ∀ i, i < n → 0 < (x i).len → w'.heap[(x i).blk]? = w.heap[(x i).blk]?) : IOw B w' a S off n x :=
  ⟨h.toISeg.of_blkK hb hy, fun o h1 h2 => (World.frozen?_of_block (a := ⟨S, o, none⟩) (hb (by omega))).trans (h.fz o h1 h2), fun j hj m hm => (World.frozen?_of_block (a := ⟨(x j).blk, (x j).off + m, none⟩) (hy j hj (by omega))).trans (h.free j hj m hm), h.away, h.apart, h.rowB⟩

/-- A list of items as it lies below B. -/
structure ILw (B : Nat) (w : World) (a : Option Addr) (S n : Nat) (x : Nat → It) : Prop extends ISeg w a S 0 n x where
  rowL : 0 < n → S < B
  bodL : ∀ i, i < n → 0 < (x i).len → (x i).blk < B

theorem ILw.keep {B : Nat} {w w' : World} {a : Option Addr} {S n : Nat} {x : Nat → It} (h : ILw B w a S n x) (e : ∀ q, q < B → w'.heap[q]? = w.heap[q]?) : ILw B w' a S n x :=
  ⟨h.toISeg.of_blkK (fun h0 => e _ (h.rowL h0)) (fun i hi h0 => e _ (h.bodL i hi h0)), h.rowL, h.bodL⟩

theorem ILw.below {B B' : Nat} {w w' : World} {a : Option Addr} {S n : Nat} {x : Nat → It} (h : ILw B w a S n x) (e : Below B' w w') (hB : B ≤ B') : ILw B w' a S n x := h.keep (fun q hq => Below.block e q (by omega))

theorem IOw.lw {B : Nat} {w : World} {a : Option Addr} {S n : Nat} {x : Nat → It} (h : IOw B w a S 0 n x) : ILw w.heap.size w a S n x :=
  ⟨h.toISeg, fun h0 => h.toISeg.lt h0, fun i hi h0 => (h.own hi).lt h0⟩

theorem Blk.of_heap {w w' : World} {C : Nat} {vs : List Value} (h : Blk w C vs) (e : w'.heap[C]? = w.heap[C]?) : Blk w' C vs := fun i v hi =>
  ⟨(World.cell?_of_block (a := ⟨C, i, none⟩) e).trans (h i v hi).1, (World.frozen?_of_block (a := ⟨C, i, none⟩) e).trans (h i v hi).2⟩

theorem ibL_len (n : Int) (h0 : -9223372036854775808 ≤ n) (h1 : n ≤ 9223372036854775807) : (ibL n).length ≤ 8 := by
  have := (ilen_is n h0 h1).le
  unfold ibL
  rw [List.length_map, List.length_range]
  omega

theorem keyC_small {k : Ky} (h : KeyP k) : SmC (keyC k) := by
  have hi : ∀ n : Int, -9223372036854775808 ≤ n → n ≤ 9223372036854775807 → (intC n).bd.length ≤ 1000 := fun n h0 h1 => by have := ibL_len n h0 h1; show (ibL n).length ≤ _; omega
  unfold keyC
  rcases h with ⟨h1, -, -, h⟩ | ⟨h2, -, -, h⟩ | ⟨h3, -, -, h⟩
  · obtain ⟨a1, a2, a3, a4, a5⟩ := rs_facts h
    rw [if_pos h1]
    refine ⟨by simp [rsaC], fun c hc => ?_⟩
    unfold rsaC at hc
    simp only [List.mem_cons, List.not_mem_nil, or_false] at hc
    rcases hc with rfl | rfl | rfl | rfl
    · exact Nat.zero_le _
    · exact hi 1 (by omega) (by omega)
    · show (natL k.n k.f).length ≤ _
      unfold natL nsz
      rw [List.length_map, List.length_range]
      omega
    · exact hi _ (by omega) (by omega)
  · obtain ⟨f1, -⟩ := cv_facts h
    rw [if_neg (by omega), if_pos h2]
    refine ⟨by simp [cvC], fun c hc => ?_⟩
    unfold cvC at hc
    simp only [List.cons_append, List.nil_append, List.mem_cons, List.not_mem_nil, or_false] at hc
    rcases hc with rfl | rfl | rfl | rfl | rfl | rfl | rfl | rfl | rfl
    · exact Nat.zero_le _
    all_goals first
      | exact hi _ (f1 _ (by simp)).1 (f1 _ (by simp)).2
      | simp
  · obtain ⟨f1, -⟩ := ed_facts h
    rw [if_neg (by omega), if_neg (by omega)]
    refine ⟨by simp [edC], fun c hc => ?_⟩
    unfold edC at hc
    simp only [List.cons_append, List.nil_append, List.mem_cons, List.not_mem_nil, or_false] at hc
    rcases hc with rfl | rfl | rfl | rfl | rfl | rfl | rfl | rfl
    · exact Nat.zero_le _
    all_goals first
      | exact hi _ (f1 _ (by simp)).1 (f1 _ (by simp)).2
      | simp

theorem ktC_small {k : Ky} {ok : Bool} (hk : ok = true ↔ KeyP k) : SmC (ktC ok k) := by
  unfold ktC
  cases ok
  · exact ⟨Nat.zero_le _, fun c hc => by simp at hc⟩
  · exact keyC_small (hk.1 rfl)
end

section
set_option linter.unusedVariables false

open Go.RowKit

set_option maxHeartbeats 400000 in
theorem markIntS_any (a : Option Addr) (g off n cap : Nat) (f : Nat → Int) (k : Int) (w : World) (hs : Own w a g off n f) (hn : n ≤ 1048576) (hk0 : 0 ≤ k) (hk1 : k ≤ 1073741824) :
    Calls Tryz.prog 52 #[.slice a n cap, .int .i64 k] w fun e w' => e = .returned (.int .i64 (k + n)) ∧ Own w' a g off n (fun i => k + i) ∧ Touch g w w' := by
  go_enter Tryz.func52, Tryz.ntmps52
  go_wp2
  go_loopw [1, 5] (fun t i wr => ∃ j : Nat, j ≤ n ∧ i = .int .i64 j ∧ t = .int .i64 (k + j) ∧ Own wr a g off n (fun i => if i < j then k + i else f i) ∧ Touch g w wr) (fun _ i _ => n - (intOf i).toNat)
  case atStart => exact ⟨0, Nat.zero_le _, rfl, by go_num, hs.congr (fun i _ => by simp), Touch.refl _ _⟩
  case round =>
    obtain ⟨j, hj, rfl, rfl, hO, hT⟩ := hrel
    by_cases hlt : j < n
    · obtain rfl := hs.at' (by omega)
      have hc := hO.cell j hlt
      have hf := hO.free j hlt
      have hjn : (j : Int) < (n : Int) := by omega
      have hO' := (hO.set hlt (k + j)).congr (f' := fun i => if i < j + 1 then k + i else f i) (fun i _ => by
        by_cases e : i = j
        · subst e; simp
        · by_cases h : i < j
          · simp [e, h, show i < j + 1 by omega]
          · simp [e, h, show ¬ i < j + 1 by omega])
      have hT' := hT.set (off + j) (.int .i64 (k + j))
      clear hO hT
      go_wp2
      go_roundw
      case rel => exact ⟨j + 1, by omega, by go_num, by go_num, hO', hT'⟩
      case measure => simp [intOf]; omega
    · obtain rfl : j = n := by omega
      go_wp2
      go_ret
      exact ⟨rfl, hO.congr (fun i hi => by simp [hi]), hT⟩
end

end Go.Proofs.YtnnandjphlajnaaGreatDoor
