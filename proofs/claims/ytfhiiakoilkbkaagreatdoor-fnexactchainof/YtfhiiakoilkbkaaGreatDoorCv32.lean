/- Keys: KeyOk of both (written by mkkey.py). Lists of bytes as a field: measured, copied, compared. -/
import Derived.Test.YtfhiiakoilkbkaaGreatDoorCv31
namespace Go.Proofs.YtfhiiakoilkbkaaGreatDoor
set_option linter.unusedVariables false
set_option linter.unusedSimpArgs false
section
open Go.RowKit
def ncB (k : Ky) : Bool := cvB k ky0 && ptB k ky0
def neB (k : Ky) : Bool := edB k ky0 && prB k ky0
def nrB (k : Ky) : Bool := k.n == 0 && k.e == 0
def EkOk (k : Ky) : Prop := EvOk k.dP k.dD k.dL k.dX k.dY ∧ OnE k.dP.toNat k.dD k.a
def KeyP (k : Ky) : Prop := (k.kind = 1 ∧ ncB k = true ∧ neB k = true ∧ rsB k.n k.f k.e = true) ∨ (k.kind = 2 ∧ nrB k = true ∧ neB k = true ∧ CkOk k) ∨ (k.kind = 3 ∧ nrB k = true ∧ ncB k = true ∧ EkOk k)
structure KyIn (k : Ky) : Prop where
 n : k.n ≤ 1048576
 e0 : -9223372036854775808 ≤ k.e
 e1 : k.e ≤ 9223372036854775807
 p : k.cP ≤ 9223372036854775807
 c : k.cN ≤ 9223372036854775807
 d : k.dP ≤ 9223372036854775807
 l : k.dL ≤ 9223372036854775807
def rsKy (k : Ky) : Ky := { ky0 with kind := 1, n := k.n, f := k.f, e := k.e }
def cvKy (k : Ky) : Ky := { ky0 with kind := 2, cP := k.cP, cA := k.cA, cB := k.cB, cN := k.cN, cX := k.cX, cY := k.cY, q := k.q }
def edKy (k : Ky) : Ky := { ky0 with kind := 3, dP := k.dP, dD := k.dD, dL := k.dL, dX := k.dX, dY := k.dY, a := k.a }
theorem alk_rs (k : Ky) (h : (k.kind == 1) = true) : alkB k (rsKy k) = (ncB k && neB k) := by
 have h2 : nsB k (rsKy k) = true := by
  unfold nsB
  rw [show (rsKy k).n = k.n from rfl, show (rsKy k).f = k.f from rfl, alike_refl]
 have h1 : (k.kind == (rsKy k).kind) = true := h
 have h3 : (k.e == (rsKy k).e) = true := by show (k.e == k.e) = true; simp
 unfold alkB ncB neB
 rw [h1, h2, h3, Bool.true_and, Bool.true_and, Bool.true_and]
 show (cvB k ky0 && (ptB k ky0 && (edB k ky0 && prB k ky0))) = _
 simp only [Bool.and_assoc]
theorem ns_none (k l : Ky) (h : l.n = 0) : nsB k l = (k.n == 0) := by
 unfold nsB
 rw [h]
 cases e : (k.n == 0)
 ·rfl
 ·have : k.n = 0 := by simpa using e
  rw [this]
  rfl
theorem alk_cv (k : Ky) (h : (k.kind == 2) = true) : alkB k (cvKy k) = (nrB k && neB k) := by
 have h1 : (k.kind == (cvKy k).kind) = true := h
 have h4 : cvB k (cvKy k) = true := by show cvB k k = true; unfold cvB; simp
 have h5 : ptB k (cvKy k) = true := by show ptB k k = true; unfold ptB; simp
 unfold alkB nrB neB
 rw [h1, ns_none k _ rfl, h4, h5, Bool.true_and, Bool.true_and, Bool.true_and]
 show ((k.n == 0) && ((k.e == 0) && (edB k ky0 && prB k ky0))) = _
 simp only [Bool.and_assoc]
theorem alk_ed (k : Ky) (h : (k.kind == 3) = true) : alkB k (edKy k) = (nrB k && ncB k) := by
 have h1 : (k.kind == (edKy k).kind) = true := h
 have h6 : edB k (edKy k) = true := by show edB k k = true; unfold edB; simp
 have h7 : prB k (edKy k) = true := by show prB k k = true; unfold prB; simp
 unfold alkB nrB ncB
 rw [h1, ns_none k _ rfl, h6, h7, Bool.true_and, Bool.and_true, Bool.and_true]
 show ((k.n == 0) && ((k.e == 0) && (cvB k ky0 && ptB k ky0))) = _
 simp only [Bool.and_assoc]
theorem key1 {k : Ky} {ok : Bool} (hk : ok = true ↔ KeyP k) (h : k.kind = 1) : ok = (rsB k.n k.f k.e && (ncB k && neB k)) := by
 have : ok = true ↔ (rsB k.n k.f k.e && (ncB k && neB k)) = true := by
  rw [hk]
  unfold KeyP
  simp only [h, Bool.and_eq_true]
  constructor
  ·rintro (h | h | h)
   ·exact ⟨h.2.2.2, h.2.1, h.2.2.1⟩
   ·omega
   ·omega
  ·rintro ⟨h1, h2, h3⟩
   exact .inl ⟨trivial, h2, h3, h1⟩
 exact Bool.eq_iff_iff.2 this
theorem key2 {k : Ky} {ok b : Bool} (hk : ok = true ↔ KeyP k) (hb : b = true ↔ CkOk k) (h : k.kind = 2) : ok = (b && (nrB k && neB k)) := by
 have : ok = true ↔ (b && (nrB k && neB k)) = true := by
  rw [hk]
  unfold KeyP
  simp only [h, Bool.and_eq_true, hb]
  constructor
  ·rintro (h | h | h)
   ·omega
   ·exact ⟨h.2.2.2, h.2.1, h.2.2.1⟩
   ·omega
  ·rintro ⟨h1, h2, h3⟩
   exact .inr (.inl ⟨trivial, h2, h3, h1⟩)
 exact Bool.eq_iff_iff.2 this
theorem key3 {k : Ky} {ok b : Bool} (hk : ok = true ↔ KeyP k) (hb : b = true ↔ EkOk k) (h : k.kind = 3) : ok = (b && (nrB k && ncB k)) := by
 have : ok = true ↔ (b && (nrB k && ncB k)) = true := by
  rw [hk]
  unfold KeyP
  simp only [h, Bool.and_eq_true, hb]
  constructor
  ·rintro (h | h | h)
   ·omega
   ·omega
   ·exact ⟨h.2.2.2, h.2.1, h.2.2.1⟩
  ·rintro ⟨h1, h2, h3⟩
   exact .inr (.inr ⟨trivial, h2, h3, h1⟩)
 exact Bool.eq_iff_iff.2 this
theorem key0 {k : Ky} {ok : Bool} (hk : ok = true ↔ KeyP k) (h1 : k.kind ≠ 1) (h2 : k.kind ≠ 2) (h3 : k.kind ≠ 3) : ok = false := by
 cases e : ok
 ·rfl
 ·rcases hk.1 e with h | h | h
  ·exact absurd h.1 h1
  ·exact absurd h.1 h2
  ·exact absurd h.1 h3
theorem tell (P : Prop) : ∃ b : Bool, b = true ↔ P := by
 rcases Classical.em P with h | h
 ·exact ⟨true, fun _ => h, fun _ => rfl⟩
 ·exact ⟨false, fun k => by simp at k, fun k => absurd k h⟩
set_option maxHeartbeats 6400000 in
set_option maxRecDepth 100000 in
theorem implKey_one_no (k : Ky) (ad : Option Addr) (b off cap : Nat) (w : World) (g1 : (k.kind == 1) = true) (HR : Hid (∀ W, Ext w W → Calls Tryz.prog 112 #[.slice ad k.n cap, .int .i64 k.e] W fun e w' => e = .returned (.bool false) ∧ Ext W w')) :
  Calls Tryz.prog 86 #[.agg #[.int .i64 k.kind, .slice ad k.n cap, .int .i64 k.e, .int .i64 k.cP, .int .i64 k.cA, .int .i64 k.cB, .int .i64 k.cN, .int .i64 k.cX, .int .i64 k.cY, .int .i64 k.q.x, .int .i64 k.q.y, .bool k.q.far, .int .i64 k.dP, .int .i64 k.dD, .int .i64 k.dL, .int .i64 k.dX, .int .i64 k.dY, .int .i64 k.a.x, .int .i64 k.a.y]] w fun r w' => r = .returned (.bool false) ∧ Ext w w' := by
 obtain ⟨V, hV⟩ : ∃ V, w.alloc (.cells #[.int .i64 k.kind, .slice ad k.n cap, .int .i64 k.e, .int .i64 k.cP, .int .i64 k.cA, .int .i64 k.cB, .int .i64 k.cN, .int .i64 k.cX, .int .i64 k.cY, .int .i64 k.q.x, .int .i64 k.q.y, .bool k.q.far, .int .i64 k.dP, .int .i64 k.dD, .int .i64 k.dL, .int .i64 k.dX, .int .i64 k.dY, .int .i64 k.a.x, .int .i64 k.a.y] 51) = V := ⟨_, rfl⟩
 obtain ⟨B0, hE, -⟩ := box1 w [.int .i64 k.kind, .slice ad k.n cap, .int .i64 k.e, .int .i64 k.cP, .int .i64 k.cA, .int .i64 k.cB, .int .i64 k.cN, .int .i64 k.cX, .int .i64 k.cY, .int .i64 k.q.x, .int .i64 k.q.y, .bool k.q.far, .int .i64 k.dP, .int .i64 k.dD, .int .i64 k.dL, .int .i64 k.dX, .int .i64 k.dY, .int .i64 k.a.x, .int .i64 k.a.y] 51 (w1 := V) (by rw [← hV]; exact Ext.refl _)
 have c0 := (B0 0 _ rfl).1
 have c1 := (B0 1 _ rfl).1
 have c2 := (B0 2 _ rfl).1
 have c3 := (B0 3 _ rfl).1
 have c4 := (B0 4 _ rfl).1
 have c5 := (B0 5 _ rfl).1
 have c6 := (B0 6 _ rfl).1
 have c7 := (B0 7 _ rfl).1
 have c8 := (B0 8 _ rfl).1
 have c9 := (B0 9 _ rfl).1
 have c10 := (B0 10 _ rfl).1
 have c11 := (B0 11 _ rfl).1
 have c12 := (B0 12 _ rfl).1
 have c13 := (B0 13 _ rfl).1
 have c14 := (B0 14 _ rfl).1
 have c15 := (B0 15 _ rfl).1
 have c16 := (B0 16 _ rfl).1
 have c17 := (B0 17 _ rfl).1
 have c18 := (B0 18 _ rfl).1
 have HE := hide hE
 clear hE
 go_enter Tryz.func86, Tryz.ntmps86
 go_wp2_with fail
 refine (HR.out _ HE.out).mono ?_
 rintro e W ⟨rfl, hEW⟩
 have HEW := hide hEW
 clear hEW B0 c0 c1 c2 c3 c4 c5 c6 c7 c8 c9 c10 c11 c12 c13 c14 c15 c16 c17 c18
 go_wp2
 go_ret
 exact ⟨rfl, Ext.trans HE.out HEW.out⟩
set_option maxHeartbeats 6400000 in
set_option maxRecDepth 100000 in
theorem implKey_one_yes (k : Ky) (ad : Option Addr) (b off cap : Nat) (r2 : Bool) (w : World) (g1 : (k.kind == 1) = true) (HR : Hid (∀ W, Ext w W → Calls Tryz.prog 112 #[.slice ad k.n cap, .int .i64 k.e] W fun e w' => e = .returned (.bool true) ∧ Ext W w')) (HA : Hid (∀ W, Ext w W → Calls Tryz.prog 113 #[.agg #[.int .i64 k.kind, .slice ad k.n cap, .int .i64 k.e, .int .i64 k.cP, .int .i64 k.cA, .int .i64 k.cB, .int .i64 k.cN, .int .i64 k.cX, .int .i64 k.cY, .int .i64 k.q.x, .int .i64 k.q.y, .bool k.q.far, .int .i64 k.dP, .int .i64 k.dD, .int .i64 k.dL, .int .i64 k.dX, .int .i64 k.dY, .int .i64 k.a.x, .int .i64 k.a.y], .agg #[.int .i64 1, .slice ad k.n cap, .int .i64 k.e, .int .i64 0, .int .i64 0, .int .i64 0, .int .i64 0, .int .i64 0, .int .i64 0, .int .i64 0, .int .i64 0, .bool false, .int .i64 0, .int .i64 0, .int .i64 0, .int .i64 0, .int .i64 0, .int .i64 0, .int .i64 0]] W fun e w' => e = .returned (.bool r2) ∧ Ext W w')) :
  Calls Tryz.prog 86 #[.agg #[.int .i64 k.kind, .slice ad k.n cap, .int .i64 k.e, .int .i64 k.cP, .int .i64 k.cA, .int .i64 k.cB, .int .i64 k.cN, .int .i64 k.cX, .int .i64 k.cY, .int .i64 k.q.x, .int .i64 k.q.y, .bool k.q.far, .int .i64 k.dP, .int .i64 k.dD, .int .i64 k.dL, .int .i64 k.dX, .int .i64 k.dY, .int .i64 k.a.x, .int .i64 k.a.y]] w fun r w' => r = .returned (.bool r2) ∧ Ext w w' := by
 obtain ⟨V, hV⟩ : ∃ V, w.alloc (.cells #[.int .i64 k.kind, .slice ad k.n cap, .int .i64 k.e, .int .i64 k.cP, .int .i64 k.cA, .int .i64 k.cB, .int .i64 k.cN, .int .i64 k.cX, .int .i64 k.cY, .int .i64 k.q.x, .int .i64 k.q.y, .bool k.q.far, .int .i64 k.dP, .int .i64 k.dD, .int .i64 k.dL, .int .i64 k.dX, .int .i64 k.dY, .int .i64 k.a.x, .int .i64 k.a.y] 51) = V := ⟨_, rfl⟩
 obtain ⟨B0, hE, -⟩ := box1 w [.int .i64 k.kind, .slice ad k.n cap, .int .i64 k.e, .int .i64 k.cP, .int .i64 k.cA, .int .i64 k.cB, .int .i64 k.cN, .int .i64 k.cX, .int .i64 k.cY, .int .i64 k.q.x, .int .i64 k.q.y, .bool k.q.far, .int .i64 k.dP, .int .i64 k.dD, .int .i64 k.dL, .int .i64 k.dX, .int .i64 k.dY, .int .i64 k.a.x, .int .i64 k.a.y] 51 (w1 := V) (by rw [← hV]; exact Ext.refl _)
 have c0 := (B0 0 _ rfl).1
 have c1 := (B0 1 _ rfl).1
 have c2 := (B0 2 _ rfl).1
 have c3 := (B0 3 _ rfl).1
 have c4 := (B0 4 _ rfl).1
 have c5 := (B0 5 _ rfl).1
 have c6 := (B0 6 _ rfl).1
 have c7 := (B0 7 _ rfl).1
 have c8 := (B0 8 _ rfl).1
 have c9 := (B0 9 _ rfl).1
 have c10 := (B0 10 _ rfl).1
 have c11 := (B0 11 _ rfl).1
 have c12 := (B0 12 _ rfl).1
 have c13 := (B0 13 _ rfl).1
 have c14 := (B0 14 _ rfl).1
 have c15 := (B0 15 _ rfl).1
 have c16 := (B0 16 _ rfl).1
 have c17 := (B0 17 _ rfl).1
 have c18 := (B0 18 _ rfl).1
 have HE := hide hE
 clear hE
 go_enter Tryz.func86, Tryz.ntmps86
 go_wp2_with fail
 refine (HR.out _ HE.out).mono ?_
 rintro e W ⟨rfl, hEW⟩
 have hB := Blk.ext B0 hEW (World.block_lt_of_cell? _ _ (B0 0 _ rfl).1)
 have hld : (loadVar 51 ⟨w.heap.size, 0, none⟩).run Tryz.prog W = .ok (.agg #[.int .i64 k.kind, .slice ad k.n cap, .int .i64 k.e, .int .i64 k.cP, .int .i64 k.cA, .int .i64 k.cB, .int .i64 k.cN, .int .i64 k.cX, .int .i64 k.cY, .int .i64 k.q.x, .int .i64 k.q.y, .bool k.q.far, .int .i64 k.dP, .int .i64 k.dD, .int .i64 k.dL, .int .i64 k.dX, .int .i64 k.dY, .int .i64 k.a.x, .int .i64 k.a.y]) W := run_loadKey [.int .i64 k.kind, .slice ad k.n cap, .int .i64 k.e, .int .i64 k.cP, .int .i64 k.cA, .int .i64 k.cB, .int .i64 k.cN, .int .i64 k.cX, .int .i64 k.cY, .int .i64 k.q.x, .int .i64 k.q.y, .bool k.q.far, .int .i64 k.dP, .int .i64 k.dD, .int .i64 k.dL, .int .i64 k.dX, .int .i64 k.dY, .int .i64 k.a.x, .int .i64 k.a.y] rfl w.heap.size W (fun j v h => (hB j v h).1)
 clear c0 c1 c2 c3 c4 c5 c6 c7 c8 c9 c10 c11 c12 c13 c14 c15 c16 c17 c18
 have c1 := (hB 1 _ rfl).1
 have c2 := (hB 2 _ rfl).1
 have HEW := hide (Ext.trans HE.out hEW)
 clear hEW HR hB B0
 go_wp2_with (refine wpList_load_on (by first | rfl | simp [Region.wanted, yielded]) 51 _ rfl _ rfl _ hld ?_)
 refine (HA.out _ HEW.out).mono ?_
 rintro e W2 ⟨rfl, hEW⟩
 have HEW2 := hide (Ext.trans HEW.out hEW)
 clear hEW HA hld c1 c2
 go_wp2
 go_ret
 exact ⟨rfl, HEW2.out⟩
set_option maxHeartbeats 6400000 in
set_option maxRecDepth 100000 in
theorem implKey_two_no (k : Ky) (ad : Option Addr) (b off cap : Nat) (w : World) (g1 : (k.kind == 1) = false) (g2 : (k.kind == 2) = true) (HR : Hid (∀ W, Ext w W → Calls Tryz.prog 114 #[.agg #[.int .i64 k.cP, .int .i64 k.cA, .int .i64 k.cB, .int .i64 k.cN, .int .i64 k.cX, .int .i64 k.cY], .agg #[.int .i64 k.q.x, .int .i64 k.q.y, .bool k.q.far]] W fun e w' => e = .returned (.bool false) ∧ Ext W w')) :
  Calls Tryz.prog 86 #[.agg #[.int .i64 k.kind, .slice ad k.n cap, .int .i64 k.e, .int .i64 k.cP, .int .i64 k.cA, .int .i64 k.cB, .int .i64 k.cN, .int .i64 k.cX, .int .i64 k.cY, .int .i64 k.q.x, .int .i64 k.q.y, .bool k.q.far, .int .i64 k.dP, .int .i64 k.dD, .int .i64 k.dL, .int .i64 k.dX, .int .i64 k.dY, .int .i64 k.a.x, .int .i64 k.a.y]] w fun r w' => r = .returned (.bool false) ∧ Ext w w' := by
 obtain ⟨V, hV⟩ : ∃ V, w.alloc (.cells #[.int .i64 k.kind, .slice ad k.n cap, .int .i64 k.e, .int .i64 k.cP, .int .i64 k.cA, .int .i64 k.cB, .int .i64 k.cN, .int .i64 k.cX, .int .i64 k.cY, .int .i64 k.q.x, .int .i64 k.q.y, .bool k.q.far, .int .i64 k.dP, .int .i64 k.dD, .int .i64 k.dL, .int .i64 k.dX, .int .i64 k.dY, .int .i64 k.a.x, .int .i64 k.a.y] 51) = V := ⟨_, rfl⟩
 obtain ⟨B0, hE, -⟩ := box1 w [.int .i64 k.kind, .slice ad k.n cap, .int .i64 k.e, .int .i64 k.cP, .int .i64 k.cA, .int .i64 k.cB, .int .i64 k.cN, .int .i64 k.cX, .int .i64 k.cY, .int .i64 k.q.x, .int .i64 k.q.y, .bool k.q.far, .int .i64 k.dP, .int .i64 k.dD, .int .i64 k.dL, .int .i64 k.dX, .int .i64 k.dY, .int .i64 k.a.x, .int .i64 k.a.y] 51 (w1 := V) (by rw [← hV]; exact Ext.refl _)
 have c0 := (B0 0 _ rfl).1
 have c1 := (B0 1 _ rfl).1
 have c2 := (B0 2 _ rfl).1
 have c3 := (B0 3 _ rfl).1
 have c4 := (B0 4 _ rfl).1
 have c5 := (B0 5 _ rfl).1
 have c6 := (B0 6 _ rfl).1
 have c7 := (B0 7 _ rfl).1
 have c8 := (B0 8 _ rfl).1
 have c9 := (B0 9 _ rfl).1
 have c10 := (B0 10 _ rfl).1
 have c11 := (B0 11 _ rfl).1
 have c12 := (B0 12 _ rfl).1
 have c13 := (B0 13 _ rfl).1
 have c14 := (B0 14 _ rfl).1
 have c15 := (B0 15 _ rfl).1
 have c16 := (B0 16 _ rfl).1
 have c17 := (B0 17 _ rfl).1
 have c18 := (B0 18 _ rfl).1
 have HE := hide hE
 clear hE
 go_enter Tryz.func86, Tryz.ntmps86
 go_wp2_with fail
 refine (HR.out _ HE.out).mono ?_
 rintro e W ⟨rfl, hEW⟩
 have HEW := hide hEW
 clear hEW B0 c0 c1 c2 c3 c4 c5 c6 c7 c8 c9 c10 c11 c12 c13 c14 c15 c16 c17 c18
 go_wp2
 go_ret
 exact ⟨rfl, Ext.trans HE.out HEW.out⟩
set_option maxHeartbeats 6400000 in
set_option maxRecDepth 100000 in
theorem implKey_two_yes (k : Ky) (ad : Option Addr) (b off cap : Nat) (r2 : Bool) (w : World) (g1 : (k.kind == 1) = false) (g2 : (k.kind == 2) = true) (HR : Hid (∀ W, Ext w W → Calls Tryz.prog 114 #[.agg #[.int .i64 k.cP, .int .i64 k.cA, .int .i64 k.cB, .int .i64 k.cN, .int .i64 k.cX, .int .i64 k.cY], .agg #[.int .i64 k.q.x, .int .i64 k.q.y, .bool k.q.far]] W fun e w' => e = .returned (.bool true) ∧ Ext W w')) (HA : Hid (∀ W, Ext w W → Calls Tryz.prog 113 #[.agg #[.int .i64 k.kind, .slice ad k.n cap, .int .i64 k.e, .int .i64 k.cP, .int .i64 k.cA, .int .i64 k.cB, .int .i64 k.cN, .int .i64 k.cX, .int .i64 k.cY, .int .i64 k.q.x, .int .i64 k.q.y, .bool k.q.far, .int .i64 k.dP, .int .i64 k.dD, .int .i64 k.dL, .int .i64 k.dX, .int .i64 k.dY, .int .i64 k.a.x, .int .i64 k.a.y], .agg #[.int .i64 2, .slice none 0 0, .int .i64 0, .int .i64 k.cP, .int .i64 k.cA, .int .i64 k.cB, .int .i64 k.cN, .int .i64 k.cX, .int .i64 k.cY, .int .i64 k.q.x, .int .i64 k.q.y, .bool k.q.far, .int .i64 0, .int .i64 0, .int .i64 0, .int .i64 0, .int .i64 0, .int .i64 0, .int .i64 0]] W fun e w' => e = .returned (.bool r2) ∧ Ext W w')) :
  Calls Tryz.prog 86 #[.agg #[.int .i64 k.kind, .slice ad k.n cap, .int .i64 k.e, .int .i64 k.cP, .int .i64 k.cA, .int .i64 k.cB, .int .i64 k.cN, .int .i64 k.cX, .int .i64 k.cY, .int .i64 k.q.x, .int .i64 k.q.y, .bool k.q.far, .int .i64 k.dP, .int .i64 k.dD, .int .i64 k.dL, .int .i64 k.dX, .int .i64 k.dY, .int .i64 k.a.x, .int .i64 k.a.y]] w fun r w' => r = .returned (.bool r2) ∧ Ext w w' := by
 obtain ⟨V, hV⟩ : ∃ V, w.alloc (.cells #[.int .i64 k.kind, .slice ad k.n cap, .int .i64 k.e, .int .i64 k.cP, .int .i64 k.cA, .int .i64 k.cB, .int .i64 k.cN, .int .i64 k.cX, .int .i64 k.cY, .int .i64 k.q.x, .int .i64 k.q.y, .bool k.q.far, .int .i64 k.dP, .int .i64 k.dD, .int .i64 k.dL, .int .i64 k.dX, .int .i64 k.dY, .int .i64 k.a.x, .int .i64 k.a.y] 51) = V := ⟨_, rfl⟩
 obtain ⟨B0, hE, -⟩ := box1 w [.int .i64 k.kind, .slice ad k.n cap, .int .i64 k.e, .int .i64 k.cP, .int .i64 k.cA, .int .i64 k.cB, .int .i64 k.cN, .int .i64 k.cX, .int .i64 k.cY, .int .i64 k.q.x, .int .i64 k.q.y, .bool k.q.far, .int .i64 k.dP, .int .i64 k.dD, .int .i64 k.dL, .int .i64 k.dX, .int .i64 k.dY, .int .i64 k.a.x, .int .i64 k.a.y] 51 (w1 := V) (by rw [← hV]; exact Ext.refl _)
 have c0 := (B0 0 _ rfl).1
 have c1 := (B0 1 _ rfl).1
 have c2 := (B0 2 _ rfl).1
 have c3 := (B0 3 _ rfl).1
 have c4 := (B0 4 _ rfl).1
 have c5 := (B0 5 _ rfl).1
 have c6 := (B0 6 _ rfl).1
 have c7 := (B0 7 _ rfl).1
 have c8 := (B0 8 _ rfl).1
 have c9 := (B0 9 _ rfl).1
 have c10 := (B0 10 _ rfl).1
 have c11 := (B0 11 _ rfl).1
 have c12 := (B0 12 _ rfl).1
 have c13 := (B0 13 _ rfl).1
 have c14 := (B0 14 _ rfl).1
 have c15 := (B0 15 _ rfl).1
 have c16 := (B0 16 _ rfl).1
 have c17 := (B0 17 _ rfl).1
 have c18 := (B0 18 _ rfl).1
 have HE := hide hE
 clear hE
 go_enter Tryz.func86, Tryz.ntmps86
 go_wp2_with fail
 refine (HR.out _ HE.out).mono ?_
 rintro e W ⟨rfl, hEW⟩
 have hB := Blk.ext B0 hEW (World.block_lt_of_cell? _ _ (B0 0 _ rfl).1)
 have hld : (loadVar 51 ⟨w.heap.size, 0, none⟩).run Tryz.prog W = .ok (.agg #[.int .i64 k.kind, .slice ad k.n cap, .int .i64 k.e, .int .i64 k.cP, .int .i64 k.cA, .int .i64 k.cB, .int .i64 k.cN, .int .i64 k.cX, .int .i64 k.cY, .int .i64 k.q.x, .int .i64 k.q.y, .bool k.q.far, .int .i64 k.dP, .int .i64 k.dD, .int .i64 k.dL, .int .i64 k.dX, .int .i64 k.dY, .int .i64 k.a.x, .int .i64 k.a.y]) W := run_loadKey [.int .i64 k.kind, .slice ad k.n cap, .int .i64 k.e, .int .i64 k.cP, .int .i64 k.cA, .int .i64 k.cB, .int .i64 k.cN, .int .i64 k.cX, .int .i64 k.cY, .int .i64 k.q.x, .int .i64 k.q.y, .bool k.q.far, .int .i64 k.dP, .int .i64 k.dD, .int .i64 k.dL, .int .i64 k.dX, .int .i64 k.dY, .int .i64 k.a.x, .int .i64 k.a.y] rfl w.heap.size W (fun j v h => (hB j v h).1)
 clear c0 c1 c2 c3 c4 c5 c6 c7 c8 c9 c10 c11 c12 c13 c14 c15 c16 c17 c18
 have c3 := (hB 3 _ rfl).1
 have c4 := (hB 4 _ rfl).1
 have c5 := (hB 5 _ rfl).1
 have c6 := (hB 6 _ rfl).1
 have c7 := (hB 7 _ rfl).1
 have c8 := (hB 8 _ rfl).1
 have c9 := (hB 9 _ rfl).1
 have c10 := (hB 10 _ rfl).1
 have c11 := (hB 11 _ rfl).1
 have HEW := hide (Ext.trans HE.out hEW)
 clear hEW HR hB B0
 go_wp2_with (refine wpList_load_on (by first | rfl | simp [Region.wanted, yielded]) 51 _ rfl _ rfl _ hld ?_)
 refine (HA.out _ HEW.out).mono ?_
 rintro e W2 ⟨rfl, hEW⟩
 have HEW2 := hide (Ext.trans HEW.out hEW)
 clear hEW HA hld c3 c4 c5 c6 c7 c8 c9 c10 c11
 go_wp2
 go_ret
 exact ⟨rfl, HEW2.out⟩
set_option maxHeartbeats 6400000 in
set_option maxRecDepth 100000 in
theorem implKey_three_no (k : Ky) (ad : Option Addr) (b off cap : Nat) (w : World) (g1 : (k.kind == 1) = false) (g2 : (k.kind == 2) = false) (g3 : (k.kind == 3) = true) (HR : Hid (∀ W, Ext w W → Calls Tryz.prog 115 #[.agg #[.int .i64 k.dP, .int .i64 k.dD, .int .i64 k.dL, .int .i64 k.dX, .int .i64 k.dY], .agg #[.int .i64 k.a.x, .int .i64 k.a.y]] W fun e w' => e = .returned (.bool false) ∧ Ext W w')) :
  Calls Tryz.prog 86 #[.agg #[.int .i64 k.kind, .slice ad k.n cap, .int .i64 k.e, .int .i64 k.cP, .int .i64 k.cA, .int .i64 k.cB, .int .i64 k.cN, .int .i64 k.cX, .int .i64 k.cY, .int .i64 k.q.x, .int .i64 k.q.y, .bool k.q.far, .int .i64 k.dP, .int .i64 k.dD, .int .i64 k.dL, .int .i64 k.dX, .int .i64 k.dY, .int .i64 k.a.x, .int .i64 k.a.y]] w fun r w' => r = .returned (.bool false) ∧ Ext w w' := by
 obtain ⟨V, hV⟩ : ∃ V, w.alloc (.cells #[.int .i64 k.kind, .slice ad k.n cap, .int .i64 k.e, .int .i64 k.cP, .int .i64 k.cA, .int .i64 k.cB, .int .i64 k.cN, .int .i64 k.cX, .int .i64 k.cY, .int .i64 k.q.x, .int .i64 k.q.y, .bool k.q.far, .int .i64 k.dP, .int .i64 k.dD, .int .i64 k.dL, .int .i64 k.dX, .int .i64 k.dY, .int .i64 k.a.x, .int .i64 k.a.y] 51) = V := ⟨_, rfl⟩
 obtain ⟨B0, hE, -⟩ := box1 w [.int .i64 k.kind, .slice ad k.n cap, .int .i64 k.e, .int .i64 k.cP, .int .i64 k.cA, .int .i64 k.cB, .int .i64 k.cN, .int .i64 k.cX, .int .i64 k.cY, .int .i64 k.q.x, .int .i64 k.q.y, .bool k.q.far, .int .i64 k.dP, .int .i64 k.dD, .int .i64 k.dL, .int .i64 k.dX, .int .i64 k.dY, .int .i64 k.a.x, .int .i64 k.a.y] 51 (w1 := V) (by rw [← hV]; exact Ext.refl _)
 have c0 := (B0 0 _ rfl).1
 have c1 := (B0 1 _ rfl).1
 have c2 := (B0 2 _ rfl).1
 have c3 := (B0 3 _ rfl).1
 have c4 := (B0 4 _ rfl).1
 have c5 := (B0 5 _ rfl).1
 have c6 := (B0 6 _ rfl).1
 have c7 := (B0 7 _ rfl).1
 have c8 := (B0 8 _ rfl).1
 have c9 := (B0 9 _ rfl).1
 have c10 := (B0 10 _ rfl).1
 have c11 := (B0 11 _ rfl).1
 have c12 := (B0 12 _ rfl).1
 have c13 := (B0 13 _ rfl).1
 have c14 := (B0 14 _ rfl).1
 have c15 := (B0 15 _ rfl).1
 have c16 := (B0 16 _ rfl).1
 have c17 := (B0 17 _ rfl).1
 have c18 := (B0 18 _ rfl).1
 have HE := hide hE
 clear hE
 go_enter Tryz.func86, Tryz.ntmps86
 go_wp2_with fail
 refine (HR.out _ HE.out).mono ?_
 rintro e W ⟨rfl, hEW⟩
 have HEW := hide hEW
 clear hEW B0 c0 c1 c2 c3 c4 c5 c6 c7 c8 c9 c10 c11 c12 c13 c14 c15 c16 c17 c18
 go_wp2
 go_ret
 exact ⟨rfl, Ext.trans HE.out HEW.out⟩
set_option maxHeartbeats 6400000 in
set_option maxRecDepth 100000 in
theorem implKey_three_yes (k : Ky) (ad : Option Addr) (b off cap : Nat) (r2 : Bool) (w : World) (g1 : (k.kind == 1) = false) (g2 : (k.kind == 2) = false) (g3 : (k.kind == 3) = true) (HR : Hid (∀ W, Ext w W → Calls Tryz.prog 115 #[.agg #[.int .i64 k.dP, .int .i64 k.dD, .int .i64 k.dL, .int .i64 k.dX, .int .i64 k.dY], .agg #[.int .i64 k.a.x, .int .i64 k.a.y]] W fun e w' => e = .returned (.bool true) ∧ Ext W w')) (HA : Hid (∀ W, Ext w W → Calls Tryz.prog 113 #[.agg #[.int .i64 k.kind, .slice ad k.n cap, .int .i64 k.e, .int .i64 k.cP, .int .i64 k.cA, .int .i64 k.cB, .int .i64 k.cN, .int .i64 k.cX, .int .i64 k.cY, .int .i64 k.q.x, .int .i64 k.q.y, .bool k.q.far, .int .i64 k.dP, .int .i64 k.dD, .int .i64 k.dL, .int .i64 k.dX, .int .i64 k.dY, .int .i64 k.a.x, .int .i64 k.a.y], .agg #[.int .i64 3, .slice none 0 0, .int .i64 0, .int .i64 0, .int .i64 0, .int .i64 0, .int .i64 0, .int .i64 0, .int .i64 0, .int .i64 0, .int .i64 0, .bool false, .int .i64 k.dP, .int .i64 k.dD, .int .i64 k.dL, .int .i64 k.dX, .int .i64 k.dY, .int .i64 k.a.x, .int .i64 k.a.y]] W fun e w' => e = .returned (.bool r2) ∧ Ext W w')) :
  Calls Tryz.prog 86 #[.agg #[.int .i64 k.kind, .slice ad k.n cap, .int .i64 k.e, .int .i64 k.cP, .int .i64 k.cA, .int .i64 k.cB, .int .i64 k.cN, .int .i64 k.cX, .int .i64 k.cY, .int .i64 k.q.x, .int .i64 k.q.y, .bool k.q.far, .int .i64 k.dP, .int .i64 k.dD, .int .i64 k.dL, .int .i64 k.dX, .int .i64 k.dY, .int .i64 k.a.x, .int .i64 k.a.y]] w fun r w' => r = .returned (.bool r2) ∧ Ext w w' := by
 obtain ⟨V, hV⟩ : ∃ V, w.alloc (.cells #[.int .i64 k.kind, .slice ad k.n cap, .int .i64 k.e, .int .i64 k.cP, .int .i64 k.cA, .int .i64 k.cB, .int .i64 k.cN, .int .i64 k.cX, .int .i64 k.cY, .int .i64 k.q.x, .int .i64 k.q.y, .bool k.q.far, .int .i64 k.dP, .int .i64 k.dD, .int .i64 k.dL, .int .i64 k.dX, .int .i64 k.dY, .int .i64 k.a.x, .int .i64 k.a.y] 51) = V := ⟨_, rfl⟩
 obtain ⟨B0, hE, -⟩ := box1 w [.int .i64 k.kind, .slice ad k.n cap, .int .i64 k.e, .int .i64 k.cP, .int .i64 k.cA, .int .i64 k.cB, .int .i64 k.cN, .int .i64 k.cX, .int .i64 k.cY, .int .i64 k.q.x, .int .i64 k.q.y, .bool k.q.far, .int .i64 k.dP, .int .i64 k.dD, .int .i64 k.dL, .int .i64 k.dX, .int .i64 k.dY, .int .i64 k.a.x, .int .i64 k.a.y] 51 (w1 := V) (by rw [← hV]; exact Ext.refl _)
 have c0 := (B0 0 _ rfl).1
 have c1 := (B0 1 _ rfl).1
 have c2 := (B0 2 _ rfl).1
 have c3 := (B0 3 _ rfl).1
 have c4 := (B0 4 _ rfl).1
 have c5 := (B0 5 _ rfl).1
 have c6 := (B0 6 _ rfl).1
 have c7 := (B0 7 _ rfl).1
 have c8 := (B0 8 _ rfl).1
 have c9 := (B0 9 _ rfl).1
 have c10 := (B0 10 _ rfl).1
 have c11 := (B0 11 _ rfl).1
 have c12 := (B0 12 _ rfl).1
 have c13 := (B0 13 _ rfl).1
 have c14 := (B0 14 _ rfl).1
 have c15 := (B0 15 _ rfl).1
 have c16 := (B0 16 _ rfl).1
 have c17 := (B0 17 _ rfl).1
 have c18 := (B0 18 _ rfl).1
 have HE := hide hE
 clear hE
 go_enter Tryz.func86, Tryz.ntmps86
 go_wp2_with fail
 refine (HR.out _ HE.out).mono ?_
 rintro e W ⟨rfl, hEW⟩
 have hB := Blk.ext B0 hEW (World.block_lt_of_cell? _ _ (B0 0 _ rfl).1)
 have hld : (loadVar 51 ⟨w.heap.size, 0, none⟩).run Tryz.prog W = .ok (.agg #[.int .i64 k.kind, .slice ad k.n cap, .int .i64 k.e, .int .i64 k.cP, .int .i64 k.cA, .int .i64 k.cB, .int .i64 k.cN, .int .i64 k.cX, .int .i64 k.cY, .int .i64 k.q.x, .int .i64 k.q.y, .bool k.q.far, .int .i64 k.dP, .int .i64 k.dD, .int .i64 k.dL, .int .i64 k.dX, .int .i64 k.dY, .int .i64 k.a.x, .int .i64 k.a.y]) W := run_loadKey [.int .i64 k.kind, .slice ad k.n cap, .int .i64 k.e, .int .i64 k.cP, .int .i64 k.cA, .int .i64 k.cB, .int .i64 k.cN, .int .i64 k.cX, .int .i64 k.cY, .int .i64 k.q.x, .int .i64 k.q.y, .bool k.q.far, .int .i64 k.dP, .int .i64 k.dD, .int .i64 k.dL, .int .i64 k.dX, .int .i64 k.dY, .int .i64 k.a.x, .int .i64 k.a.y] rfl w.heap.size W (fun j v h => (hB j v h).1)
 clear c0 c1 c2 c3 c4 c5 c6 c7 c8 c9 c10 c11 c12 c13 c14 c15 c16 c17 c18
 have c12 := (hB 12 _ rfl).1
 have c13 := (hB 13 _ rfl).1
 have c14 := (hB 14 _ rfl).1
 have c15 := (hB 15 _ rfl).1
 have c16 := (hB 16 _ rfl).1
 have c17 := (hB 17 _ rfl).1
 have c18 := (hB 18 _ rfl).1
 have HEW := hide (Ext.trans HE.out hEW)
 clear hEW HR hB B0
 go_wp2_with (refine wpList_load_on (by first | rfl | simp [Region.wanted, yielded]) 51 _ rfl _ rfl _ hld ?_)
 refine (HA.out _ HEW.out).mono ?_
 rintro e W2 ⟨rfl, hEW⟩
 have HEW2 := hide (Ext.trans HEW.out hEW)
 clear hEW HA hld c12 c13 c14 c15 c16 c17 c18
 go_wp2
 go_ret
 exact ⟨rfl, HEW2.out⟩
set_option maxHeartbeats 6400000 in
set_option maxRecDepth 100000 in
theorem implKey_none (k : Ky) (ad : Option Addr) (b off cap : Nat) (w : World) (g1 : (k.kind == 1) = false) (g2 : (k.kind == 2) = false) (g3 : (k.kind == 3) = false) :
  Calls Tryz.prog 86 #[.agg #[.int .i64 k.kind, .slice ad k.n cap, .int .i64 k.e, .int .i64 k.cP, .int .i64 k.cA, .int .i64 k.cB, .int .i64 k.cN, .int .i64 k.cX, .int .i64 k.cY, .int .i64 k.q.x, .int .i64 k.q.y, .bool k.q.far, .int .i64 k.dP, .int .i64 k.dD, .int .i64 k.dL, .int .i64 k.dX, .int .i64 k.dY, .int .i64 k.a.x, .int .i64 k.a.y]] w fun r w' => r = .returned (.bool false) ∧ Ext w w' := by
 obtain ⟨V, hV⟩ : ∃ V, w.alloc (.cells #[.int .i64 k.kind, .slice ad k.n cap, .int .i64 k.e, .int .i64 k.cP, .int .i64 k.cA, .int .i64 k.cB, .int .i64 k.cN, .int .i64 k.cX, .int .i64 k.cY, .int .i64 k.q.x, .int .i64 k.q.y, .bool k.q.far, .int .i64 k.dP, .int .i64 k.dD, .int .i64 k.dL, .int .i64 k.dX, .int .i64 k.dY, .int .i64 k.a.x, .int .i64 k.a.y] 51) = V := ⟨_, rfl⟩
 obtain ⟨B0, hE, -⟩ := box1 w [.int .i64 k.kind, .slice ad k.n cap, .int .i64 k.e, .int .i64 k.cP, .int .i64 k.cA, .int .i64 k.cB, .int .i64 k.cN, .int .i64 k.cX, .int .i64 k.cY, .int .i64 k.q.x, .int .i64 k.q.y, .bool k.q.far, .int .i64 k.dP, .int .i64 k.dD, .int .i64 k.dL, .int .i64 k.dX, .int .i64 k.dY, .int .i64 k.a.x, .int .i64 k.a.y] 51 (w1 := V) (by rw [← hV]; exact Ext.refl _)
 have c0 := (B0 0 _ rfl).1
 have c1 := (B0 1 _ rfl).1
 have c2 := (B0 2 _ rfl).1
 have c3 := (B0 3 _ rfl).1
 have c4 := (B0 4 _ rfl).1
 have c5 := (B0 5 _ rfl).1
 have c6 := (B0 6 _ rfl).1
 have c7 := (B0 7 _ rfl).1
 have c8 := (B0 8 _ rfl).1
 have c9 := (B0 9 _ rfl).1
 have c10 := (B0 10 _ rfl).1
 have c11 := (B0 11 _ rfl).1
 have c12 := (B0 12 _ rfl).1
 have c13 := (B0 13 _ rfl).1
 have c14 := (B0 14 _ rfl).1
 have c15 := (B0 15 _ rfl).1
 have c16 := (B0 16 _ rfl).1
 have c17 := (B0 17 _ rfl).1
 have c18 := (B0 18 _ rfl).1
 have HE := hide hE
 clear hE
 go_enter Tryz.func86, Tryz.ntmps86
 go_wp2
 go_ret
 exact ⟨rfl, HE.out⟩
theorem implKeyOk_at (k : Ky) (ad : Option Addr) (b off cap : Nat) (ok : Bool) (hk : ok = true ↔ KeyP k) (w : World) (hs : Seg w ad b off k.n k.f) (hI : KyIn k) :
  Calls Tryz.prog 86 #[.agg #[.int .i64 k.kind, .slice ad k.n cap, .int .i64 k.e, .int .i64 k.cP, .int .i64 k.cA, .int .i64 k.cB, .int .i64 k.cN, .int .i64 k.cX, .int .i64 k.cY, .int .i64 k.q.x, .int .i64 k.q.y, .bool k.q.far, .int .i64 k.dP, .int .i64 k.dD, .int .i64 k.dL, .int .i64 k.dX, .int .i64 k.dY, .int .i64 k.a.x, .int .i64 k.a.y]] w fun r w' => r = .returned (.bool ok) ∧ Ext w w' := by
 have nil : ∀ W : World, Seg W none 0 0 0 (fun _ => 0) := fun W => ⟨fun h => absurd h (Nat.lt_irrefl _), fun i hi => absurd hi (Nat.not_lt_zero _)⟩
 by_cases h1 : k.kind = 1
 ·have g1 : (k.kind == 1) = true := by simp [h1]
  have hO := key1 hk h1
  have hR : ∀ W, Ext w W → Calls Tryz.prog 112 #[.slice ad k.n cap, .int .i64 k.e] W fun e w' => e = .returned (.bool (rsB k.n k.f k.e)) ∧ Ext W w' := fun W hW => (rsaOk_any ad b off k.n cap k.f k.e W (hs.of_all hW) hI.n hI.e0 hI.e1).mono fun e w' h => ⟨h.1, by rw [h.2]; exact Ext.refl _⟩
  cases r1 : rsB k.n k.f k.e
  ·rw [r1] at hO hR
   rw [show ok = false by rw [hO]; rfl]
   exact implKey_one_no k ad b off cap w g1 hR
  ·rw [r1] at hO hR
   rw [show ok = (ncB k && neB k) by rw [hO]; rfl]
   refine implKey_one_yes k ad b off cap _ w g1 hR (hide fun W hW => ?_)
   have := alike_any k (rsKy k) ad b off cap ad b off cap W (hs.of_all hW) (hs.of_all hW) hI.n
   rw [alk_rs k g1] at this
   exact this
 have g1 : (k.kind == 1) = false := by simp [h1]
 by_cases h2 : k.kind = 2
 ·have g2 : (k.kind == 2) = true := by simp [h2]
  obtain ⟨r1, hr1⟩ := tell (CkOk k)
  have hO := key2 hk hr1 h2
  have hR : ∀ W, Ext w W → Calls Tryz.prog 114 #[.agg #[.int .i64 k.cP, .int .i64 k.cA, .int .i64 k.cB, .int .i64 k.cN, .int .i64 k.cX, .int .i64 k.cY], .agg #[.int .i64 k.q.x, .int .i64 k.q.y, .bool k.q.far]] W fun e w' => e = .returned (.bool r1) ∧ Ext W w' := fun W _ => curveKeyOk_any k r1 hr1 W hI.p hI.c
  cases r1
  ·rw [show ok = false by rw [hO]; rfl]
   exact implKey_two_no k ad b off cap w g1 g2 hR
  ·rw [show ok = (nrB k && neB k) by rw [hO]; rfl]
   refine implKey_two_yes k ad b off cap _ w g1 g2 hR (hide fun W hW => ?_)
   have := alike_any k (cvKy k) ad b off cap none 0 0 0 W (hs.of_all hW) (nil W) hI.n
   rw [alk_cv k g2] at this
   exact this
 have g2 : (k.kind == 2) = false := by simp [h2]
 by_cases h3 : k.kind = 3
 ·have g3 : (k.kind == 3) = true := by simp [h3]
  obtain ⟨r1, hr1⟩ := tell (EkOk k)
  have hO := key3 hk hr1 h3
  have hR : ∀ W, Ext w W → Calls Tryz.prog 115 #[.agg #[.int .i64 k.dP, .int .i64 k.dD, .int .i64 k.dL, .int .i64 k.dX, .int .i64 k.dY], .agg #[.int .i64 k.a.x, .int .i64 k.a.y]] W fun e w' => e = .returned (.bool r1) ∧ Ext W w' := fun W _ => implPairOk_at k.dP k.dD k.dL k.dX k.dY k.a hI.d hI.l r1 hr1 W
  cases r1
  ·rw [show ok = false by rw [hO]; rfl]
   exact implKey_three_no k ad b off cap w g1 g2 g3 hR
  ·rw [show ok = (nrB k && ncB k) by rw [hO]; rfl]
   refine implKey_three_yes k ad b off cap _ w g1 g2 g3 hR (hide fun W hW => ?_)
   have := alike_any k (edKy k) ad b off cap none 0 0 0 W (hs.of_all hW) (nil W) hI.n
   rw [alk_ed k g3] at this
   exact this
 have g3 : (k.kind == 3) = false := by simp [h3]
 rw [key0 hk h1 h2 h3]
 exact implKey_none k ad b off cap w g1 g2 g3
end
section
set_option maxRecDepth 100000
open Go.RowKit
theorem szBytes_any (a : Option Addr) (n cap : Nat) (l : Int) (w : World) (l0 : 0 ≤ l) (l1 : l ≤ 1048576) (hn : n ≤ 9223372036854775807) :
  Calls Tryz.prog 21 #[.slice a n cap, .int .i64 l] w fun e w' => (∃ z : Int, e = .returned (.int .i64 z) ∧ -1 ≤ z ∧ z ≤ l ∧ (0 ≤ z → z + (n : Int) ≤ l)) ∧ w' = w := by
 by_cases h : l < n
 ·have h1 : l - (n : Int) < 0 := by omega
  have h2 : -9223372036854775808 ≤ l - (n : Int) := by omega
  go_enter Tryz.func21, Tryz.ntmps21
  go_wp2
  go_ret
  exact ⟨⟨-1, rfl, by omega, by omega, fun h => by omega⟩, rfl⟩
 ·obtain ⟨D, hD⟩ : ∃ D, l - (n : Int) = D := ⟨_, rfl⟩
  have d0 : -1 ≤ D := by omega
  have d1 : D ≤ l := by omega
  have d2 : (n : Int) ≤ l := by omega
  have h1 : ¬ D < 0 := by omega
  have h3 : -9223372036854775808 ≤ D := by omega
  have h4 : D ≤ 9223372036854775807 := by omega
  go_enter Tryz.func21, Tryz.ntmps21
  go_wp2
  go_ret
  exact ⟨⟨D, rfl, d0, d1, fun _ => by omega⟩, rfl⟩
theorem BSeg.kp {N : Nat} {w w' : World} {a : Option Addr} {b off n : Nat} {f : Nat → Int} (h : BSeg w a b off n f) (hb : N ≤ b) (k : Kp N w w') : BSeg w' a b off n f :=
 ⟨h.at', fun i hi => (World.cell?_of_block (a := ⟨b, off + i, none⟩) (k.2 b hb (h.lt (by omega)))).trans (h.cell i hi)⟩
theorem toBytes_kp (p : Plc) (n : Nat) (f : Nat → Int) (W : World) (hs : BSeg W p.ad p.b p.off n f) (hn : n ≤ 1048576) :
  Calls Tryz.prog 29 #[.slice p.ad n p.cap] W fun e w' => ∃ q : Plc, e = .returned (.slice q.ad n q.cap) ∧ (∀ w'', Kp W.heap.size w' w'' → BSeg w'' q.ad q.b q.off n f) ∧ Ext W w' :=
 (toByteS_any p.ad p.b p.off n p.cap f W hs hn).mono fun e w' ⟨h1, h2, h3, h4⟩ => ⟨⟨some ⟨W.heap.size, 0, none⟩, W.heap.size, 0, n⟩, h1, fun w'' k => BSeg.kp (N := W.heap.size) (w := w') ⟨fun _ => rfl, fun i hi => by rw [Nat.zero_add]; exact h3.cell hi⟩ (Nat.le_refl _) k, h4⟩
theorem eqBytes_same (p p2 : Plc) (n : Nat) (f : Nat → Int) (W : World) (hs : BSeg W p.ad p.b p.off n f) (hs2 : BSeg W p2.ad p2.b p2.off n f) (hn : n ≤ 1048576) :
  Calls Tryz.prog 39 #[.slice p.ad n p.cap, .slice p2.ad n p2.cap] W fun e w' => e = .returned (.bool true) ∧ Ext W w' :=
 (eqByteS_any p.ad p.b p.off n p.cap f p2.ad p2.b p2.off n p2.cap f W hs hs2 hn).mono fun e w' ⟨h1, z, h2⟩ => ⟨by rw [h1, (alike_iff _ _ _).2 (fun _ _ => rfl)]; simp, by rw [h2]; exact below_drewN (Ext.refl _) _⟩
end
end Go.Proofs.YtfhiiakoilkbkaaGreatDoor
