/- Proved: at every two lists of bytes the law FnExactHmac answers true and leaves its arguments as they were: the program's Hmac answers as the model's at every key and data of at most 1048576 bytes, writes into no argument, and its answer owns its memory, behind another call too (beyond that the law itself answers true at once). No condition. -/
import Derived.Test.YthgdempjpndhgabRows
import Derived.WalkKit
import Derived.ProofKit
import Derived.OpenShut
import Derived.ShutString
import Derived.ChangeOld
import Derived.Below
import Derived.Test.YthgdempjpndhgabHmM
import Derived.Test.YthgdempjpndhgabBMarks
namespace Go.Proofs.Ythgdempjpndhgab.fnExactHmac
open Go.ChangeShapes Go.WideShapes Go.ChangeAt Go.RowKit
open Go.ChangeMaps (open_string shut_string)
set_option linter.unusedVariables false

theorem own : ownKnob Try.prog.godebug = none := by kernel_rfl
theorem laidOut : laidOutB Try.prog = true := by kernel_rfl

/-- WHAT THE WALK IS TOLD OF A SLICE OF INTEGERS THAT CAME IN: it is nil; or it leads to a row of 'cap' cells, the numbers 'zs' (the first 'len' are its elements, the rest its spare room), each fitting its kind. -/
def IsRow (k : IntKind) (w : World) (a : Option Addr) (len cap : Nat) (zs : List Int) : Prop :=
  (a = none ∧ len = 0 ∧ cap = 0 ∧ zs = []) ∨
  ∃ x, a = some x ∧ len ≤ cap ∧ cap ≤ maxLen ∧ zs.length = cap ∧ (∀ i, i < zs.length → w.cell? (x.add i) = some (.int k (zs.getD i 0))) ∧ ∀ n ∈ zs, (Lit.int k n).wf = true

theorem IsRow.seg {w : World} {a : Option Addr} {len cap : Nat} {zs : List Int} (h : IsRow .u8 w a len cap zs) : ∃ b off, BSeg w a b off len (fun i => zs.getD i 0) ∧ ∀ i, i < len → 0 ≤ zs.getD i 0 ∧ zs.getD i 0 < 256 := by
  rcases h with ⟨rfl, rfl, rfl, rfl⟩ | ⟨x, rfl, hl, hm, hz, hcell, hwz⟩
  · exact ⟨0, 0, ⟨fun h => absurd h (Nat.lt_irrefl _), fun i hi => absurd hi (Nat.not_lt_zero _)⟩, fun i hi => absurd hi (Nat.not_lt_zero _)⟩
  · obtain ⟨b, off, spot⟩ := x
    by_cases h0 : len = 0
    · subst h0
      exact ⟨0, 0, ⟨fun h => absurd h (Nat.lt_irrefl _), fun i hi => absurd hi (Nat.not_lt_zero _)⟩, fun i hi => absurd hi (Nat.not_lt_zero _)⟩
    · have hspot : spot = none := by simpa [Addr.add] using World.cell?_spot (hcell 0 (by omega))
      subst hspot
      exact ⟨b, off, ⟨fun _ => rfl, fun i hi => by
        have h := hcell i (by omega)
        have e : Addr.add ⟨b, off, none⟩ i = ⟨b, off + i, none⟩ := by
          by_cases h0 : i = 0
          · subst h0; simp [Addr.add]
          · simp [Addr.add, h0]
        rwa [e] at h⟩, fun i hi => by
        have hm : zs.getD i 0 ∈ zs := by
          rw [List.getD_eq_getElem?_getD, List.getElem?_eq_getElem (show i < zs.length by omega)]
          exact List.getElem_mem _
        have := bounds_u8 (hwz _ hm)
        omega⟩

theorem bsegGrw {X : Nat → Prop} {w w' : World} {a : Option Addr} {b off n : Nat} {f : Nat → Int} (h : BSeg w a b off n f) (g : Grw X w w') (hx : 0 < n → ¬ X b) : BSeg w' a b off n f :=
  ⟨h.at', fun i hi => (World.cell?_of_block (a := ⟨b, off + i, none⟩) (g.block b (h.lt (by omega)) (hx (by omega)))).trans (h.cell i hi)⟩
theorem bownGrw {X : Nat → Prop} {w w' : World} {a : Option Addr} {b off n : Nat} {f : Nat → Int} (h : BOwn w a b off n f) (g : Grw X w w') (hx : 0 < n → ¬ X b) : BOwn w' a b off n f :=
  ⟨bsegGrw h.toBSeg g hx, fun i hi => (World.frozen?_of_block (a := ⟨b, off + i, none⟩) (g.block b (h.toBSeg.lt (by omega)) (hx (by omega)))).trans (h.free i hi)⟩

/-- In the midst of the law. -/
structure HAt (w W : World) (M : Nat) (F : Nat → Int) (a3 : Option Addr) (g3 p0 n : Nat) (f0 : Nat → Int) (p1 m : Nat) (f1 : Nat → Int) (a6 : Option Addr) (g6 : Nat) (F6 : Nat → Int) : Prop where
  e : Ext w W
  s3 : BSeg W a3 g3 0 M F
  x0 : BOwn W (some ⟨p0, 0, none⟩) p0 0 n f0
  x1 : BOwn W (some ⟨p1, 0, none⟩) p1 0 m f1
  z6 : BOwn W a6 g6 0 M F6
theorem HAt.up {w W W' : World} {M : Nat} {F : Nat → Int} {a3 : Option Addr} {g3 p0 n : Nat} {f0 : Nat → Int} {p1 m : Nat} {f1 : Nat → Int} {a6 : Option Addr} {g6 : Nat} {F6 : Nat → Int} (h : HAt w W M F a3 g3 p0 n f0 p1 m f1 a6 g6 F6) (x : Ext W W') : HAt w W' M F a3 g3 p0 n f0 p1 m f1 a6 g6 F6 :=
  ⟨h.e.trans x, h.s3.of_all x, h.x0.of_all x, h.x1.of_all x, h.z6.of_all x⟩
theorem HAt.below {w W W' : World} {M : Nat} {F : Nat → Int} {a3 : Option Addr} {g3 p0 n : Nat} {f0 : Nat → Int} {p1 m : Nat} {f1 : Nat → Int} {a6 : Option Addr} {g6 : Nat} {F6 : Nat → Int} (h : HAt w W M F a3 g3 p0 n f0 p1 m f1 a6 g6 F6) {g : Nat} (hG : Grw (fun k => k = g) W W') (hg : w.heap.size ≤ g) : Ext w W' :=
  Below.trans h.e ⟨hG.os, hG.tape, hG.output, hG.size, fun k hk => hG.block k (Nat.lt_of_lt_of_le hk (Below.size h.e)) (by intro e; subst e; omega)⟩
theorem HAt.m0 {w W W' : World} {M : Nat} {F : Nat → Int} {a3 : Option Addr} {g3 p0 n : Nat} {f0 : Nat → Int} {p1 m : Nat} {f1 : Nat → Int} {a6 : Option Addr} {g6 : Nat} {F6 : Nat → Int} (h : HAt w W M F a3 g3 p0 n f0 p1 m f1 a6 g6 F6) (q : (0 < M → g3 < p0) ∧ w.heap.size ≤ p0 ∧ p0 < p1 ∧ p1 < g6) {f' : Nat → Int} (hG : Grw (fun k => k = p0) W W') (hB : BOwn W' (some ⟨p0, 0, none⟩) p0 0 n f') : HAt w W' M F a3 g3 p0 n f' p1 m f1 a6 g6 F6 :=
  ⟨h.below hG (by omega), bsegGrw h.s3 hG (fun hp => by show ¬ _ = _; omega), hB, bownGrw h.x1 hG (fun _ => by show ¬ _ = _; omega), bownGrw h.z6 hG (fun _ => by show ¬ _ = _; omega)⟩
theorem HAt.m1 {w W W' : World} {M : Nat} {F : Nat → Int} {a3 : Option Addr} {g3 p0 n : Nat} {f0 : Nat → Int} {p1 m : Nat} {f1 : Nat → Int} {a6 : Option Addr} {g6 : Nat} {F6 : Nat → Int} (h : HAt w W M F a3 g3 p0 n f0 p1 m f1 a6 g6 F6) (q : (0 < M → g3 < p0) ∧ w.heap.size ≤ p0 ∧ p0 < p1 ∧ p1 < g6) {f' : Nat → Int} (hG : Grw (fun k => k = p1) W W') (hB : BOwn W' (some ⟨p1, 0, none⟩) p1 0 m f') : HAt w W' M F a3 g3 p0 n f0 p1 m f' a6 g6 F6 :=
  ⟨h.below hG (by omega), bsegGrw h.s3 hG (fun hp => by show ¬ _ = _; omega), bownGrw h.x0 hG (fun _ => by show ¬ _ = _; omega), hB, bownGrw h.z6 hG (fun _ => by show ¬ _ = _; omega)⟩
theorem HAt.m6 {w W W' : World} {M : Nat} {F : Nat → Int} {a3 : Option Addr} {g3 p0 n : Nat} {f0 : Nat → Int} {p1 m : Nat} {f1 : Nat → Int} {a6 : Option Addr} {g6 : Nat} {F6 : Nat → Int} (h : HAt w W M F a3 g3 p0 n f0 p1 m f1 a6 g6 F6) (q : (0 < M → g3 < p0) ∧ w.heap.size ≤ p0 ∧ p0 < p1 ∧ p1 < g6) {f' : Nat → Int} (hG : Grw (fun k => k = g6) W W') (hB : BOwn W' a6 g6 0 M f') : HAt w W' M F a3 g3 p0 n f0 p1 m f1 a6 g6 f' :=
  ⟨h.below hG (by omega), bsegGrw h.s3 hG (fun hp => by show ¬ _ = _; omega), bownGrw h.x0 hG (fun _ => by show ¬ _ = _; omega), bownGrw h.x1 hG (fun _ => by show ¬ _ = _; omega), hB⟩

set_option maxHeartbeats 8000000 in
set_option maxRecDepth 100000 in
theorem law (a : Option Addr) (b off n cap : Nat) (f : Nat → Int) (da : Option Addr) (db doff m dcap : Nat) (fd : Nat → Int) (M : Nat) (F : Nat → Int) (ok : Bool) (hM : M ≤ 1048576) (w : World) (hs : BSeg w a b off n f) (hn : n ≤ 1048576) (hd : BSeg w da db doff m fd) (hm : m ≤ 1048576)
    (Hsp : Hid (∀ (p q : Nat) (w : World), BSeg w (some ⟨p, 0, none⟩) p 0 n f → BSeg w (some ⟨q, 0, none⟩) q 0 m fd → Calls Try.prog 8 #[.slice (some ⟨p, 0, none⟩) n n, .slice (some ⟨q, 0, none⟩) m m] w fun e w' => GivesBo w M F ok e w'))
    (Him : Hid (∀ (p q : Nat) (w : World), BSeg w (some ⟨p, 0, none⟩) p 0 n f → BSeg w (some ⟨q, 0, none⟩) q 0 m fd → Calls Try.prog 10 #[.slice (some ⟨p, 0, none⟩) n n, .slice (some ⟨q, 0, none⟩) m m] w fun e w' => GivesBo w M F ok e w')) :
    Calls Try.prog 3 #[.slice a n cap, .slice da m dcap] w fun e w' => e = .returned (.bool true) ∧ Below w.heap.size w w' := by
  have hz : ¬ (1048576 : Int) < (n : Int) := by omega
  have hz' : ¬ (1048576 : Int) < (m : Int) := by omega
  have HTk : Hid (∀ W : World, Ext w W → Calls Try.prog 9 #[.slice a n cap] W fun e w' => e = .returned (.slice (some ⟨W.heap.size, 0, none⟩) n n) ∧ W.heap.size < w'.heap.size ∧ BOwn w' (some ⟨W.heap.size, 0, none⟩) W.heap.size 0 n f ∧ Ext W w') := hide (fun W e => (toByteS_any a b off n cap f W (hs.of_all e) hn).mono (fun _ _ k => ⟨k.1, by have := k.2.1; omega, BOwn.of_row k.2.2.1 (Nat.le_refl _), k.2.2.2⟩))
  have HTb : Hid (∀ W : World, Ext w W → Calls Try.prog 9 #[.slice da m dcap] W fun e w' => e = .returned (.slice (some ⟨W.heap.size, 0, none⟩) m m) ∧ W.heap.size < w'.heap.size ∧ BOwn w' (some ⟨W.heap.size, 0, none⟩) W.heap.size 0 m fd ∧ Ext W w') := hide (fun W e => (toByteS_any da db doff m dcap fd W (hd.of_all e) hm).mono (fun _ _ k => ⟨k.1, by have := k.2.1; omega, BOwn.of_row k.2.2.1 (Nat.le_refl _), k.2.2.2⟩))
  clear hs hd
  go_enter Try.func3, Try.ntmps3
  go_wp2_with fail
  refine (HTk.out _ (Ext.refl _)).mono ?_
  rintro e w1 ⟨rfl, -, A1, h1⟩
  go_wp2_with fail
  refine (HTb.out _ h1).mono ?_
  rintro e w2 ⟨rfl, -, A2, h2⟩
  go_wp2_with fail
  refine (Hsp.out _ _ _ (A1.of_all h2).toBSeg A2.toBSeg).mono ?_
  rintro e w3 ⟨a3, g3, c3, rfl, -, hO3, h3⟩
  have E3 : Ext w w3 := (h1.trans h2).trans h3
  have lt3 : Hid (0 < M → g3 < w3.heap.size) := hide (fun h => hO3.toBSeg.lt h)
  have s3 := hide hO3.toBSeg
  have HE3 := hide E3
  clear A1 A2 h1 h2 h3 hO3 Hsp E3
  have hokk : (ok != ok) = false := by simp
  go_wp2_with fail
  refine (HTk.out _ HE3.out).mono ?_
  rintro e w4 ⟨rfl, l4, x0, h4⟩
  have Hx0 := hide x0
  have HE4 := hide (HE3.out.trans h4)
  have H4 := hide h4
  have Hl4 := hide l4
  clear x0 h4 l4
  go_wp2_with fail
  refine (HTb.out _ HE4.out).mono ?_
  rintro e w5 ⟨rfl, l5, x1, h5⟩
  have Hx1 := hide x1
  have H5 := hide h5
  have Hl5 := hide l5
  have Hx0' := hide (Hx0.out.of_all h5)
  clear x1 h5 l5
  go_wp2_with fail
  refine (Him.out _ _ _ Hx0'.out.toBSeg Hx1.out.toBSeg).mono ?_
  rintro e w6 ⟨a6, g6, c6, rfl, hg6, hO6, h6⟩
  have HQ : Hid ((0 < M → g3 < w3.heap.size) ∧ w.heap.size ≤ w3.heap.size ∧ w3.heap.size < w4.heap.size ∧ w4.heap.size < g6) := hide ⟨lt3.out, Below.size HE3.out, Hl4.out, Nat.lt_of_lt_of_le Hl5.out hg6⟩
  have HH : Hid (HAt w w6 M F a3 g3 w3.heap.size n f w4.heap.size m fd a6 g6 F) := hide ⟨(HE4.out.trans H5.out).trans h6, s3.out.of_all ((H4.out.trans H5.out).trans h6), Hx0'.out.of_all h6, Hx1.out.of_all h6, hO6⟩
  clear hO6 h6 hg6 s3 lt3 HE3 HE4 H4 H5 Hx0 Hx0' Hx1 Hl4 Hl5
  generalize w3.heap.size = p0 at *
  generalize w4.heap.size = p1 at *
  go_wp2_with fail
  refine (eqByteS_any a6 g6 0 M c6 F a3 g3 0 M c3 F _ HH.out.z6.toBSeg HH.out.s3 hM).mono ?_
  rintro e w7 ⟨rfl, q, rfl⟩
  rw [alike_refl]
  replace HH := hide (HH.out.up (show Ext w6 (w6.drewN q) from below_drewN (Below.refl _ _) q))
  generalize w6.drewN q = w7 at *
  go_wp2_with fail
  refine (HTk.out _ HH.out.e).mono ?_
  rintro e w8 ⟨rfl, -, A8, h8⟩
  replace HH := hide (HH.out.up h8)
  clear h8
  go_wp2_with fail
  refine (eqByteS_any _ p0 0 n n f _ w7.heap.size 0 n n f _ HH.out.x0.toBSeg A8.toBSeg hn).mono ?_
  rintro e w9 ⟨rfl, q, rfl⟩
  rw [alike_refl]
  replace HH := hide (HH.out.up (show Ext w8 (w8.drewN q) from below_drewN (Below.refl _ _) q))
  clear A8
  generalize w8.drewN q = w9 at *
  go_wp2_with fail
  refine (HTb.out _ HH.out.e).mono ?_
  rintro e w10 ⟨rfl, -, A10, h10⟩
  replace HH := hide (HH.out.up h10)
  clear h10
  go_wp2_with fail
  refine (eqByteS_any _ p1 0 m m fd _ w9.heap.size 0 m m fd _ HH.out.x1.toBSeg A10.toBSeg hm).mono ?_
  rintro e w11 ⟨rfl, q, rfl⟩
  rw [alike_refl]
  replace HH := hide (HH.out.up (show Ext w10 (w10.drewN q) from below_drewN (Below.refl _ _) q))
  clear A10
  generalize w10.drewN q = w11 at *
  go_wp2_with fail
  refine (markByteS_any _ p0 0 n n f 1 _ HH.out.x0 hn (by omega) (by omega)).mono ?_
  rintro e w12 ⟨rfl, hB, hT⟩
  replace HH := hide (HH.out.m0 HQ.out (Grw.of_touch hT rfl) hB)
  clear hB hT
  go_wp2_with fail
  refine (markByteS_any _ p1 0 m m fd (1 + (n : Int)) _ HH.out.x1 hm (by omega) (by omega)).mono ?_
  rintro e w13 ⟨rfl, hB, hT⟩
  replace HH := hide (HH.out.m1 HQ.out (Grw.of_touch hT rfl) hB)
  clear hB hT
  have hk0 : ¬ (1 + (n : Int) + (m : Int) < 0) := by omega
  go_wp2_with fail
  refine (eqByteS_any a6 g6 0 M c6 F a3 g3 0 M c3 F _ HH.out.z6.toBSeg HH.out.s3 hM).mono ?_
  rintro e w14 ⟨rfl, q, rfl⟩
  rw [alike_refl]
  replace HH := hide (HH.out.up (show Ext w13 (w13.drewN q) from below_drewN (Below.refl _ _) q))
  generalize w13.drewN q = w14 at *
  go_wp2_with fail
  refine (markByteS_any a6 g6 0 M c6 F 1 _ HH.out.z6 hM (by omega) (by omega)).mono ?_
  rintro e w15 ⟨rfl, hB, hT⟩
  replace HH := hide (HH.out.m6 HQ.out (Grw.of_touch hT rfl) hB)
  clear hB hT
  go_wp2_with fail
  refine (heldByteS_any a6 g6 0 M c6 1 _ HH.out.z6.toBSeg hM (by omega) (by omega)).mono ?_
  rintro e w16 ⟨rfl, hw⟩
  obtain rfl := hw.symm
  have hp : ¬ (1 + (M : Int) < 0) := by omega
  go_wp2_with fail
  refine (HTk.out _ HH.out.e).mono ?_
  rintro e w17 ⟨rfl, -, A17, h17⟩
  replace HH := hide (HH.out.up h17)
  clear h17
  go_wp2_with fail
  refine (HTb.out _ HH.out.e).mono ?_
  rintro e w18 ⟨rfl, -, A18, h18⟩
  replace HH := hide (HH.out.up h18)
  replace A17 := A17.of_all h18
  clear h18
  go_wp2_with fail
  refine (Him.out _ _ _ A17.toBSeg A18.toBSeg).mono ?_
  rintro e w19 ⟨a19, g19, c19, rfl, -, hO19, h19⟩
  replace HH := hide (HH.out.up h19)
  clear h19 A17 A18
  go_wp2_with fail
  refine (eqByteS_any a19 g19 0 M c19 F a3 g3 0 M c3 F _ hO19.toBSeg HH.out.s3 hM).mono ?_
  rintro e w20 ⟨rfl, q, rfl⟩
  rw [alike_refl]
  replace HH := hide (HH.out.up (show Ext w19 (w19.drewN q) from below_drewN (Below.refl _ _) q))
  clear hO19
  generalize w19.drewN q = w20 at *
  go_wp2_with fail
  refine (heldByteS_any a6 g6 0 M c6 1 _ HH.out.z6.toBSeg hM (by omega) (by omega)).mono ?_
  rintro e w21 ⟨rfl, hw⟩
  obtain rfl := hw.symm
  go_wp2
  go_ret
  exact ⟨rfl, HH.out.e⟩

theorem law_long (a : Option Addr) (n cap : Nat) (da : Option Addr) (m dcap : Nat) (w : World) (hn : ¬ (n ≤ 1048576 ∧ m ≤ 1048576)) :
    Calls Try.prog 3 #[.slice a n cap, .slice da m dcap] w fun e w' => e = .returned (.bool true) ∧ Below w.heap.size w w' := by
  by_cases h1 : (1048576 : Int) < (n : Int)
  · go_enter Try.func3, Try.ntmps3
    go_wp2
    go_ret
    exact ⟨rfl, Below.refl _ _⟩
  · have h2 : (1048576 : Int) < (m : Int) := by omega
    go_enter Try.func3, Try.ntmps3
    go_wp2
    go_ret
    exact ⟨rfl, Below.refl _ _⟩

theorem walk (a0 : Option Addr) (len0 cap0 : Nat) (z0 : List Int) (a1 : Option Addr) (len1 cap1 : Nat) (z1 : List Int) (w : World) (w0 : IsRow .u8 w a0 len0 cap0 z0) (w1 : IsRow .u8 w a1 len1 cap1 z1) :
    Calls Try.prog 3 #[.slice a0 len0 cap0, .slice a1 len1 cap1] w fun e w' => e = .returned (.bool true) ∧ Below w.heap.size w w' := by
  obtain ⟨b, off, hs, hy⟩ := w0.seg
  obtain ⟨db, doff, hd, hdy⟩ := w1.seg
  by_cases hn : len0 ≤ 1048576 ∧ len1 ≤ 1048576
  · exact law a0 b off len0 cap0 _ a1 db doff len1 cap1 _ (hmacN len0 len1) _ (hmacB len0 len1) (by unfold hmacN; split <;> omega) w hs hn.1 hd hn.2 (hide (fun p q w h1 h2 => specHmac_any _ p 0 len0 len0 _ _ q 0 len1 len1 _ w h1 h2 hy hdy)) (hide (fun p q w h1 h2 => implHmac_any _ p 0 len0 len0 _ _ q 0 len1 len1 _ w h1 h2 hy hdy))
  · exact law_long a0 len0 cap0 a1 len1 cap1 w hn

/-! ### THE ROW's STEP: WRITTEN OUT: LEAVE IT -/
set_option maxRecDepth 100000 in
theorem lifted (os : Os) (started : os.Started) (H : Type) (enc : TypeId × Value → H) :
    ReturnsInHanded {} Try.checked os 3 .any (Rows.fnExactHmacSpec.pre6 enc Try.prog Try.f3 Rows.fnExactHmacRow.domain false) (Rows.fnExactHmacSpec.post enc Try.prog Try.f3 false true false false) := by
  refine returnsInHanded_of_change (C := Try.checked) own started (by kernel_rfl) Try.func3
    (ChangeSpec.witness6 (enc := enc) (C := Try.checked) false ⟨#[], #[.slice none 0 0, .slice none 0 0], []⟩ 8 (by kernel_rfl) (by kernel_rfl) (by kernel_rfl) (by kernel_rfl)) ?_
  intro W base args ds gs before hval0 hW hcnd _
  have hval : ∀ (j : Nat) t v, Try.f3.params[j]? = some t → args[j]? = some v → Value.okWide Try.prog W .any base t v := hval0
  have hW' := hW
  obtain ⟨p, q, hA0, hV, rfl, hfz, hnd⟩ := hW
  have hA : DataW.TrodAll enc Try.prog W 0 (fun _ => true) true Try.f3.params.toList args.toList ds p := hA0
  rw [Try.params3] at hA hval
  obtain ⟨v0, vs0, d0, ds0, p0, q0, hargs, rfl, rfl, h0, r0⟩ := trodAll_cons hA
  obtain ⟨v1, vs1, d1, ds1, p1, q1, rfl, rfl, rfl, h1, r1⟩ := trodAll_cons r0
  obtain ⟨rfl, rfl, rfl⟩ := trodAll_nil r1
  obtain rfl : args = #[v0, v1] := by cases args; simp_all
  obtain ⟨rfl, rfl⟩ := trodVars_none hV
  obtain ⟨a0, len0, cap0, rfl⟩ := okWide_slice Try.underlying22 (hval 0 22 v0 rfl rfl)
  have k0 := h0
  have lt0 : ∀ x ∈ p0, x.block < W.heap.size := by obtain ⟨m, hm⟩ := k0; exact DataW.trod_lt m _ _ _ hm
  obtain ⟨z0, w0⟩ : ∃ zs, IsRow .u8 W a0 len0 cap0 zs := by
    obtain ⟨fuel, hf⟩ := h0
    rcases open_ints Try.underlying22 Try.underlying5 (by kernel_rfl) hf with ⟨hcs, _⟩ | ⟨x, l, c, zs, hcs, _, hl, hm, hz, _, hcell, hwz⟩
    · simp [Value.cells] at hcs
      obtain ⟨rfl, rfl, rfl⟩ := hcs
      exact ⟨[], .inl ⟨rfl, rfl, rfl, rfl⟩⟩
    · simp [Value.cells] at hcs
      obtain ⟨rfl, rfl, rfl⟩ := hcs
      exact ⟨zs, .inr ⟨_, rfl, hl, hm, by simpa using hz, hcell, hwz⟩⟩
  obtain ⟨a1, len1, cap1, rfl⟩ := okWide_slice Try.underlying22 (hval 1 22 v1 rfl rfl)
  have k1 := h1
  have lt1 : ∀ x ∈ p1, x.block < W.heap.size := by obtain ⟨m, hm⟩ := k1; exact DataW.trod_lt m _ _ _ hm
  obtain ⟨z1, w1⟩ : ∃ zs, IsRow .u8 W a1 len1 cap1 zs := by
    obtain ⟨fuel, hf⟩ := h1
    rcases open_ints Try.underlying22 Try.underlying5 (by kernel_rfl) hf with ⟨hcs, _⟩ | ⟨x, l, c, zs, hcs, _, hl, hm, hz, _, hcell, hwz⟩
    · simp [Value.cells] at hcs
      obtain ⟨rfl, rfl, rfl⟩ := hcs
      exact ⟨[], .inl ⟨rfl, rfl, rfl, rfl⟩⟩
    · simp [Value.cells] at hcs
      obtain ⟨rfl, rfl, rfl⟩ := hcs
      exact ⟨zs, .inr ⟨_, rfl, hl, hm, by simpa using hz, hcell, hwz⟩⟩
  clear hA0 hval0
  refine (walk a0 len0 cap0 z0 a1 len1 cap1 z1 W w0 w1).mono fun e W' ⟨he, bel⟩ => ?_
  subst he
  exact ⟨_, rfl, _, _, _, [], _, [], hW', trodAll_mk1 (shut_bool Try.underlying4 _), (trodAll_cons_mk (Below.trod laidOut (by kernel_rfl) (of_decide_eq_true (by kernel_rfl)) k0 bel lt0) (trodAll_cons_mk (Below.trod laidOut (by kernel_rfl) (of_decide_eq_true (by kernel_rfl)) k1 bel lt1) trodAll_mk0)), rfl, bel.frame _, fun h => by cases h⟩

theorem over : Rows.fnExactHmacRow.holds Try.pinned (OpenSpec.ofChange Rows.fnExactHmacSpec) :=
  OpenClaim.holds_of_wide 3 Try.f3 rfl rfl rfl rfl rfl rfl rfl ⟨rfl, rfl, rfl, rfl, rfl⟩ rfl rfl rfl rfl rfl (by kernel_rfl) Try.func3 (by kernel_rfl)
    (of_decide_eq_true (by kernel_rfl)) (by unfold Func.isWrapper; first | (rw [if_pos (by decide +kernel)]; kernel_rfl) | (rw [if_neg (by decide +kernel)]; exact ⟨rfl, rfl⟩))
    (fun os started H enc _ => lifted os started H enc)

/-- ████ THE STATEMENT ████ -/
theorem proved : Rows.FnExactHmacSaid := over
end Go.Proofs.Ythgdempjpndhgab.fnExactHmac

namespace Go.Proofs.Ythgdempjpndhgab
/-- The given statement. -/
theorem fnExactHmac_holds : Rows.FnExactHmacSaid := fnExactHmac.proved
#print axioms fnExactHmac_holds
end Go.Proofs.Ythgdempjpndhgab
