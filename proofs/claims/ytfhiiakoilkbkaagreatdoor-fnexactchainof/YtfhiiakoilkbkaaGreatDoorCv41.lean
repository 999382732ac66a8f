/- Walks: marks in lists of certificates found again (written by mkmkd.py). -/
import Derived.Test.YtfhiiakoilkbkaaGreatDoorCv40
namespace Go.Proofs.YtfhiiakoilkbkaaGreatDoor
set_option linter.unusedVariables false
set_option linter.unusedSimpArgs false
open Go.RowKit
set_option maxHeartbeats 25600000 in
set_option maxRecDepth 100000 in
theorem heldCertS_any (p : Plc) (n k : Nat) (c : Nat → Ct) (m : Nat → CtPl) (w w' W : World) (hO : COw w p n c m) (hn : n ≤ 1048576) (hk : kn c k n ≤ 1073741824) (hM : CMk w w' p n c m k n 0 (ctL (c n) (m n))) (hW : AgS (CsT p n c m) w' W) :
  Calls Tryz.prog 17 #[.slice p.ad n p.cap, .int .i64 (k : Int)] W fun e W' => e = .returned (.int .i64 ((kn c k n : Nat) : Int)) ∧ Ext W W' := by
 obtain ⟨ad, b, off, cap⟩ := p
 dsimp only
 have Hat := hide hO.seg.at'
 have Hk := hide hk
 have HCel : Hid (∀ j, j < n → ∀ W2, Ext W W2 → ∀ t v, t < 34 → (mkL (c j) (m j) (kcc (c j) (kn c k j)))[t]? = some v → W2.cell? ⟨b, off + j * 34 + t, none⟩ = some v) := hide (fun j hj W2 hE t v ht hv => by
  have h1 := (hM.oth j hj (by omega) t v ht (by rw [if_pos hj]; exact hv)).1
  have hb := World.block_lt_of_cell? _ _ h1
  have h2 := (World.cell?_of_block (a := ⟨b, off + j * 34 + t, none⟩) (hW.2 b (.inl ⟨by omega, rfl⟩) hb)).trans h1
  exact (Below.cell hE (p := ⟨b, off + j * 34 + t, none⟩) (World.block_lt_of_cell? _ _ h2)).trans h2)
 have HPt : Hid (∀ j, j < n → ∀ r, r < 9 → ∀ W2, Ext W W2 → AgS (PtT (c j) (m j) r) w' W2 ∧ PtH (c j) (m j) (kcc (c j) (kn c k j)) r w') := hide (fun j hj r hr W2 hE => ⟨(hW.ext hE).sub (fun b hb => .inr ⟨j, r, hj, hr, hb⟩), hM.held j r (.inl ⟨hj, hr⟩)⟩)
 dsimp only at Hat
 clear hO hk hM hW
 go_enter Tryz.func17, Tryz.ntmps17
 go_wp2
 go_loopw [1, 5] (fun t i wr => ∃ j : Nat, j ≤ n ∧ i = .int .i64 (j : Int) ∧ t = .int .i64 ((kn c k j : Nat) : Int) ∧ Ext W wr) (fun _ i _ => n - (intOf i).toNat)
 case atStart => exact ⟨0, Nat.zero_le _, rfl, rfl, Ext.refl _⟩
 case round =>
  obtain ⟨j, hj, rfl, rfl, hE⟩ := hrel
  by_cases hlt : j < n
  ·have hat := Hat.out (by omega)
   subst hat
   have hjn : (j : Int) < (n : Int) := by omega
   have Hmx : Hid (kn c k (j + 1) ≤ 1073741824) := hide (by have := preS_le (fun i => preS (szc (c i)) 34) (i := j + 1) (n := n) (by omega); have := Hk.out; unfold kn at *; omega)
   have HCj := hide (HCel.out j hlt)
   have HPj := hide (HPt.out j hlt)
   obtain ⟨K, hK⟩ : ∃ K : Nat → Nat, kcc (c j) (kn c k j) = K := ⟨_, rfl⟩
   have hk0 : kn c k j = K 0 := by rw [← hK]; rfl
   have Hend : Hid (K 34 = kn c k (j + 1)) := hide (by rw [← hK]; exact Nat.add_assoc _ _ _)
   have Hle : Hid (∀ t, t ≤ 34 → K t ≤ 1073741824) := hide (fun t ht => by have h1 := Hend.out; have h2 := Hmx.out; rw [← h1, ← hK] at h2; rw [← hK]; have := preS_le (szc (c j)) ht; unfold kcc at *; omega)
   have Hst : Hid (∀ t, K (t + 1) = K t + szc (c j) t) := hide (fun t => by rw [← hK]; exact (Nat.add_assoc _ _ _).symm)
   rw [hK] at HCj HPj
   have HE := hide hE
   rw [hk0]
   clear hK hk0 hE
   have u := HCj.out wr HE.out 0 _ (by decide) rfl
   rw [Nat.add_zero] at u
   unfold mk1 at u
   have hne : ((K 0 : Int) != (K 0 : Int)) = false := by simp
   have hb : (K 0 : Int) ≤ 1073741824 := by have := Hle.out 0 (by decide); omega
   have hi : (K 0 : Int) + 1 = ((K 1 : Nat) : Int) := by have : K 1 = K 0 + 1 := Hst.out 0; omega
   go_upto_region 7 with fail
   try rw [hi]
   clear hb hi hne u
   have u := HCj.out wr HE.out 1 _ (by decide) rfl
   have HC := hide ((HPj.out 0 (by decide) wr HE.out).2 wr (HPj.out 0 (by decide) wr HE.out).1)
   have hn0 : ¬ ((K 2 : Int) < 0) := by omega
   go_wp2_with fail
   refine HC.out.mono ?_
   rintro e W1 ⟨rfl, hE1⟩
   replace HE := hide (HE.out.trans hE1)
   clear u hE1 HC
   go_upto_region 10 with fail
   clear hn0
   have u := HCj.out W1 HE.out 2 _ (by decide) rfl
   have HC := hide ((HPj.out 1 (by decide) W1 HE.out).2 W1 (HPj.out 1 (by decide) W1 HE.out).1)
   have hn0 : ¬ ((K 3 : Int) < 0) := by omega
   go_wp2_with fail
   refine HC.out.mono ?_
   rintro e W2 ⟨rfl, hE1⟩
   replace HE := hide (HE.out.trans hE1)
   clear u hE1 HC
   go_upto_region 13 with fail
   clear hn0
   have u := HCj.out W2 HE.out 3 _ (by decide) rfl
   unfold mk1 at u
   have hne : ((K 3 : Int) != (K 3 : Int)) = false := by simp
   have hb : (K 3 : Int) ≤ 1073741824 := by have := Hle.out 3 (by decide); omega
   have hi : (K 3 : Int) + 1 = ((K 4 : Nat) : Int) := by have : K 4 = K 3 + 1 := Hst.out 3; omega
   go_upto_region 16 with fail
   try rw [hi]
   clear hb hi hne u
   have u := HCj.out W2 HE.out 4 _ (by decide) rfl
   unfold mk1 at u
   have hne : ((K 4 : Int) != (K 4 : Int)) = false := by simp
   have hb : (K 4 : Int) ≤ 1073741824 := by have := Hle.out 4 (by decide); omega
   have hi : (K 4 : Int) + 1 = ((K 5 : Nat) : Int) := by have : K 5 = K 4 + 1 := Hst.out 4; omega
   go_upto_region 19 with fail
   try rw [hi]
   clear hb hi hne u
   have u := HCj.out W2 HE.out 5 _ (by decide) rfl
   unfold mk1 at u
   have hne : ((K 5 : Int) != (K 5 : Int)) = false := by simp
   have hb : (K 5 : Int) ≤ 1073741824 := by have := Hle.out 5 (by decide); omega
   have hi : (K 5 : Int) + 1 = ((K 6 : Nat) : Int) := by have : K 6 = K 5 + 1 := Hst.out 5; omega
   go_upto_region 22 with fail
   try rw [hi]
   clear hb hi hne u
   have u := HCj.out W2 HE.out 6 _ (by decide) rfl
   have HC := hide ((HPj.out 2 (by decide) W2 HE.out).2 W2 (HPj.out 2 (by decide) W2 HE.out).1)
   have hn0 : ¬ ((K 7 : Int) < 0) := by omega
   go_wp2_with fail
   refine HC.out.mono ?_
   rintro e W6 ⟨rfl, hE1⟩
   replace HE := hide (HE.out.trans hE1)
   clear u hE1 HC
   go_upto_region 25 with fail
   clear hn0
   have u := HCj.out W6 HE.out 7 _ (by decide) rfl
   unfold mk1 at u
   have hne : ((K 7 : Int) != (K 7 : Int)) = false := by simp
   have hb : (K 7 : Int) ≤ 1073741824 := by have := Hle.out 7 (by decide); omega
   have hi : (K 7 : Int) + 1 = ((K 8 : Nat) : Int) := by have : K 8 = K 7 + 1 := Hst.out 7; omega
   go_upto_region 28 with fail
   try rw [hi]
   clear hb hi hne u
   have u := HCj.out W6 HE.out 8 _ (by decide) rfl
   unfold mk1 at u
   have hne : ((K 8 : Int) != (K 8 : Int)) = false := by simp
   have hb : (K 8 : Int) ≤ 1073741824 := by have := Hle.out 8 (by decide); omega
   have hi : (K 8 : Int) + 1 = ((K 9 : Nat) : Int) := by have : K 9 = K 8 + 1 := Hst.out 8; omega
   go_upto_region 31 with fail
   try rw [hi]
   clear hb hi hne u
   have u := HCj.out W6 HE.out 9 _ (by decide) rfl
   unfold mk1 at u
   have hne : ((K 9 : Int) != (K 9 : Int)) = false := by simp
   have hb : (K 9 : Int) ≤ 1073741824 := by have := Hle.out 9 (by decide); omega
   have hi : (K 9 : Int) + 1 = ((K 10 : Nat) : Int) := by have : K 10 = K 9 + 1 := Hst.out 9; omega
   go_upto_region 34 with fail
   try rw [hi]
   clear hb hi hne u
   have u := HCj.out W6 HE.out 10 _ (by decide) rfl
   unfold mk1 at u
   have hne : ((K 10 : Int) != (K 10 : Int)) = false := by simp
   have hb : (K 10 : Int) ≤ 1073741824 := by have := Hle.out 10 (by decide); omega
   have hi : (K 10 : Int) + 1 = ((K 11 : Nat) : Int) := by have : K 11 = K 10 + 1 := Hst.out 10; omega
   go_upto_region 37 with fail
   try rw [hi]
   clear hb hi hne u
   have u := HCj.out W6 HE.out 11 _ (by decide) rfl
   unfold mk1 at u
   have hne : ((K 11 : Int) != (K 11 : Int)) = false := by simp
   have hb : (K 11 : Int) ≤ 1073741824 := by have := Hle.out 11 (by decide); omega
   have hi : (K 11 : Int) + 1 = ((K 12 : Nat) : Int) := by have : K 12 = K 11 + 1 := Hst.out 11; omega
   go_upto_region 40 with fail
   try rw [hi]
   clear hb hi hne u
   have u := HCj.out W6 HE.out 12 _ (by decide) rfl
   unfold mk1 at u
   have hne : ((K 12 : Int) != (K 12 : Int)) = false := by simp
   have hb : (K 12 : Int) ≤ 1073741824 := by have := Hle.out 12 (by decide); omega
   have hi : (K 12 : Int) + 1 = ((K 13 : Nat) : Int) := by have : K 13 = K 12 + 1 := Hst.out 12; omega
   go_upto_region 43 with fail
   try rw [hi]
   clear hb hi hne u
   have u := HCj.out W6 HE.out 13 _ (by decide) rfl
   unfold mk1 at u
   have hne : ((K 13 : Int) != (K 13 : Int)) = false := by simp
   have hb : (K 13 : Int) ≤ 1073741824 := by have := Hle.out 13 (by decide); omega
   have hi : (K 13 : Int) + 1 = ((K 14 : Nat) : Int) := by have : K 14 = K 13 + 1 := Hst.out 13; omega
   go_upto_region 46 with fail
   try rw [hi]
   clear hb hi hne u
   have u := HCj.out W6 HE.out 14 _ (by decide) rfl
   unfold mk1 at u
   have hne : ((K 14 : Int) != (K 14 : Int)) = false := by simp
   have hb : (K 14 : Int) ≤ 1073741824 := by have := Hle.out 14 (by decide); omega
   have hi : (K 14 : Int) + 1 = ((K 15 : Nat) : Int) := by have : K 15 = K 14 + 1 := Hst.out 14; omega
   go_upto_region 49 with fail
   try rw [hi]
   clear hb hi hne u
   have u := HCj.out W6 HE.out 15 _ (by decide) rfl
   unfold mk1 at u
   have hne : ((K 15 : Int) != (K 15 : Int)) = false := by simp
   have hb : (K 15 : Int) ≤ 1073741824 := by have := Hle.out 15 (by decide); omega
   have hi : (K 15 : Int) + 1 = ((K 16 : Nat) : Int) := by have : K 16 = K 15 + 1 := Hst.out 15; omega
   go_upto_region 52 with fail
   try rw [hi]
   clear hb hi hne u
   have u := HCj.out W6 HE.out 16 _ (by decide) rfl
   unfold fl at u
   have hne : (((K 16 : Int) % 3 == 0) != ((K 16 : Int) % 3 == 0)) = false := by simp
   have hb : (K 16 : Int) ≤ 1073741824 := by have := Hle.out 16 (by decide); omega
   have hi : (K 16 : Int) + 1 = ((K 17 : Nat) : Int) := by have : K 17 = K 16 + 1 := Hst.out 16; omega
   go_upto_region 55 with fail
   try rw [hi]
   clear hb hi hne u
   have u := HCj.out W6 HE.out 17 _ (by decide) rfl
   unfold mk1 at u
   have hne : ((K 17 : Int) != (K 17 : Int)) = false := by simp
   have hb : (K 17 : Int) ≤ 1073741824 := by have := Hle.out 17 (by decide); omega
   have hi : (K 17 : Int) + 1 = ((K 18 : Nat) : Int) := by have : K 18 = K 17 + 1 := Hst.out 17; omega
   go_upto_region 58 with fail
   try rw [hi]
   clear hb hi hne u
   have u := HCj.out W6 HE.out 18 _ (by decide) rfl
   unfold mk1 at u
   have hne : ((K 18 : Int) != (K 18 : Int)) = false := by simp
   have hb : (K 18 : Int) ≤ 1073741824 := by have := Hle.out 18 (by decide); omega
   have hi : (K 18 : Int) + 1 = ((K 19 : Nat) : Int) := by have : K 19 = K 18 + 1 := Hst.out 18; omega
   go_upto_region 61 with fail
   try rw [hi]
   clear hb hi hne u
   have u := HCj.out W6 HE.out 19 _ (by decide) rfl
   unfold mk1 at u
   have hne : ((K 19 : Int) != (K 19 : Int)) = false := by simp
   have hb : (K 19 : Int) ≤ 1073741824 := by have := Hle.out 19 (by decide); omega
   have hi : (K 19 : Int) + 1 = ((K 20 : Nat) : Int) := by have : K 20 = K 19 + 1 := Hst.out 19; omega
   go_upto_region 64 with fail
   try rw [hi]
   clear hb hi hne u
   have u := HCj.out W6 HE.out 20 _ (by decide) rfl
   unfold mk1 at u
   have hne : ((K 20 : Int) != (K 20 : Int)) = false := by simp
   have hb : (K 20 : Int) ≤ 1073741824 := by have := Hle.out 20 (by decide); omega
   have hi : (K 20 : Int) + 1 = ((K 21 : Nat) : Int) := by have : K 21 = K 20 + 1 := Hst.out 20; omega
   go_upto_region 67 with fail
   try rw [hi]
   clear hb hi hne u
   have u := HCj.out W6 HE.out 21 _ (by decide) rfl
   unfold mk1 at u
   have hne : ((K 21 : Int) != (K 21 : Int)) = false := by simp
   have hb : (K 21 : Int) ≤ 1073741824 := by have := Hle.out 21 (by decide); omega
   have hi : (K 21 : Int) + 1 = ((K 22 : Nat) : Int) := by have : K 22 = K 21 + 1 := Hst.out 21; omega
   go_upto_region 70 with fail
   try rw [hi]
   clear hb hi hne u
   have u := HCj.out W6 HE.out 22 _ (by decide) rfl
   unfold mk1 at u
   have hne : ((K 22 : Int) != (K 22 : Int)) = false := by simp
   have hb : (K 22 : Int) ≤ 1073741824 := by have := Hle.out 22 (by decide); omega
   have hi : (K 22 : Int) + 1 = ((K 23 : Nat) : Int) := by have : K 23 = K 22 + 1 := Hst.out 22; omega
   go_upto_region 73 with fail
   try rw [hi]
   clear hb hi hne u
   have u := HCj.out W6 HE.out 23 _ (by decide) rfl
   unfold mk1 at u
   have hne : ((K 23 : Int) != (K 23 : Int)) = false := by simp
   have hb : (K 23 : Int) ≤ 1073741824 := by have := Hle.out 23 (by decide); omega
   have hi : (K 23 : Int) + 1 = ((K 24 : Nat) : Int) := by have : K 24 = K 23 + 1 := Hst.out 23; omega
   go_upto_region 76 with fail
   try rw [hi]
   clear hb hi hne u
   have u := HCj.out W6 HE.out 24 _ (by decide) rfl
   unfold mk1 at u
   have hne : ((K 24 : Int) != (K 24 : Int)) = false := by simp
   have hb : (K 24 : Int) ≤ 1073741824 := by have := Hle.out 24 (by decide); omega
   have hi : (K 24 : Int) + 1 = ((K 25 : Nat) : Int) := by have : K 25 = K 24 + 1 := Hst.out 24; omega
   go_upto_region 79 with fail
   try rw [hi]
   clear hb hi hne u
   have u := HCj.out W6 HE.out 25 _ (by decide) rfl
   unfold fl at u
   have hne : (((K 25 : Int) % 3 == 0) != ((K 25 : Int) % 3 == 0)) = false := by simp
   have hb : (K 25 : Int) ≤ 1073741824 := by have := Hle.out 25 (by decide); omega
   have hi : (K 25 : Int) + 1 = ((K 26 : Nat) : Int) := by have : K 26 = K 25 + 1 := Hst.out 25; omega
   go_upto_region 82 with fail
   try rw [hi]
   clear hb hi hne u
   have u := HCj.out W6 HE.out 26 _ (by decide) rfl
   unfold mk1 at u
   have hne : ((K 26 : Int) != (K 26 : Int)) = false := by simp
   have hb : (K 26 : Int) ≤ 1073741824 := by have := Hle.out 26 (by decide); omega
   have hi : (K 26 : Int) + 1 = ((K 27 : Nat) : Int) := by have : K 27 = K 26 + 1 := Hst.out 26; omega
   go_upto_region 85 with fail
   try rw [hi]
   clear hb hi hne u
   have u := HCj.out W6 HE.out 27 _ (by decide) rfl
   unfold mk1 at u
   have hne : ((K 27 : Int) != (K 27 : Int)) = false := by simp
   have hb : (K 27 : Int) ≤ 1073741824 := by have := Hle.out 27 (by decide); omega
   have hi : (K 27 : Int) + 1 = ((K 28 : Nat) : Int) := by have : K 28 = K 27 + 1 := Hst.out 27; omega
   go_upto_region 88 with fail
   try rw [hi]
   clear hb hi hne u
   have u := HCj.out W6 HE.out 28 _ (by decide) rfl
   have HC := hide ((HPj.out 3 (by decide) W6 HE.out).2 W6 (HPj.out 3 (by decide) W6 HE.out).1)
   have hn0 : ¬ ((K 29 : Int) < 0) := by omega
   go_wp2_with fail
   refine HC.out.mono ?_
   rintro e W28 ⟨rfl, hE1⟩
   replace HE := hide (HE.out.trans hE1)
   clear u hE1 HC
   go_upto_region 91 with fail
   clear hn0
   have u := HCj.out W28 HE.out 29 _ (by decide) rfl
   have HC := hide ((HPj.out 4 (by decide) W28 HE.out).2 W28 (HPj.out 4 (by decide) W28 HE.out).1)
   have hn0 : ¬ ((K 30 : Int) < 0) := by omega
   go_wp2_with fail
   refine HC.out.mono ?_
   rintro e W29 ⟨rfl, hE1⟩
   replace HE := hide (HE.out.trans hE1)
   clear u hE1 HC
   go_upto_region 94 with fail
   clear hn0
   have u := HCj.out W29 HE.out 30 _ (by decide) rfl
   have HC := hide ((HPj.out 5 (by decide) W29 HE.out).2 W29 (HPj.out 5 (by decide) W29 HE.out).1)
   have hn0 : ¬ ((K 31 : Int) < 0) := by omega
   go_wp2_with fail
   refine HC.out.mono ?_
   rintro e W30 ⟨rfl, hE1⟩
   replace HE := hide (HE.out.trans hE1)
   clear u hE1 HC
   go_upto_region 97 with fail
   clear hn0
   have u := HCj.out W30 HE.out 31 _ (by decide) rfl
   have HC := hide ((HPj.out 6 (by decide) W30 HE.out).2 W30 (HPj.out 6 (by decide) W30 HE.out).1)
   have hn0 : ¬ ((K 32 : Int) < 0) := by omega
   go_wp2_with fail
   refine HC.out.mono ?_
   rintro e W31 ⟨rfl, hE1⟩
   replace HE := hide (HE.out.trans hE1)
   clear u hE1 HC
   go_upto_region 100 with fail
   clear hn0
   have u := HCj.out W31 HE.out 32 _ (by decide) rfl
   have HC := hide ((HPj.out 7 (by decide) W31 HE.out).2 W31 (HPj.out 7 (by decide) W31 HE.out).1)
   have hn0 : ¬ ((K 33 : Int) < 0) := by omega
   go_wp2_with fail
   refine HC.out.mono ?_
   rintro e W32 ⟨rfl, hE1⟩
   replace HE := hide (HE.out.trans hE1)
   clear u hE1 HC
   go_upto_region 103 with fail
   clear hn0
   have u := HCj.out W32 HE.out 33 _ (by decide) rfl
   have HC := hide ((HPj.out 8 (by decide) W32 HE.out).2 W32 (HPj.out 8 (by decide) W32 HE.out).1)
   have hn0 : ¬ ((K 34 : Int) < 0) := by omega
   go_wp2_with fail
   refine HC.out.mono ?_
   rintro e W33 ⟨rfl, hE1⟩
   replace HE := hide (HE.out.trans hE1)
   clear u hE1 HC
   go_wp2
   go_roundw
   case rel => exact ⟨j + 1, by omega, by go_num, by rw [Hend.out], HE.out⟩
   case measure => simp [intOf]; omega
  ·obtain rfl : j = n := by omega
   go_wp2
   go_ret
   exact ⟨rfl, hE⟩
theorem markCertSC (p : Plc) (n k : Nat) (c : Nat → Ct) (m : Nat → CtPl) (w : World) (hO : COw w p n c m) (hn : n ≤ 1048576) (hS : ∀ i, i < n → CtSm (c i) 1048576) (hk : kn c k n ≤ 1073741824) :
  MkC 15 17 (.slice p.ad n p.cap) k (kn c k n) (CsS p n c m) (CsT p n c m) w := by
 refine (markCertS_any p n k c m w hO hn hS hk).mono ?_
 rintro e w' ⟨rfl, hM⟩
 exact ⟨rfl, hM.msm, fun W hW => heldCertS_any p n k c m w w' W hO hn hk hM hW⟩
end Go.Proofs.YtfhiiakoilkbkaaGreatDoor
