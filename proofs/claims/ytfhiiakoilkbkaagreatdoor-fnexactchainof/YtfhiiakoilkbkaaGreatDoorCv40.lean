/- Walks: marks in lists of certificates (written by mkmkc.py). -/
import Derived.Test.YtfhiiakoilkbkaaGreatDoorCv35
namespace Go.Proofs.YtfhiiakoilkbkaaGreatDoor
set_option linter.unusedVariables false
set_option linter.unusedSimpArgs false
open Go.RowKit
theorem CMk.put {w W : World} {p : Plc} {n k j r : Nat} {c : Nat → Ct} {m : Nat → CtPl} {K : Nat → Nat} {t : Nat} {v : Value} (h : CMk w W p n c m k j r (upL (c j) (m j) K t)) (hO : COw w p n c m) (hj : j < n) (hr : r ≤ 9) (ht : t < 34) (e : (upL (c j) (m j) K t).set t v = upL (c j) (m j) K (t + 1)) : CMk w (W.setCell ⟨p.b, p.off + j * 34 + t, none⟩ v) p n c m k j r (upL (c j) (m j) K (t + 1)) := by
 have := h.store hO hj hr t ht (upL_len _ _ _ _ (by omega)) v
 rwa [e] at this
theorem CMk.skip {w W : World} {p : Plc} {n k j r t : Nat} {c : Nat → Ct} {m : Nat → CtPl} {K : Nat → Nat} (h : CMk w W p n c m k j r (upL (c j) (m j) K t)) (e : upL (c j) (m j) K t = upL (c j) (m j) K (t + 1)) : CMk w W p n c m k j r (upL (c j) (m j) K (t + 1)) := by rwa [e] at h
set_option maxHeartbeats 25600000 in
set_option maxRecDepth 100000 in
theorem markCertS_any (p : Plc) (n k : Nat) (c : Nat → Ct) (m : Nat → CtPl) (w : World) (hO : COw w p n c m) (hn : n ≤ 1048576) (hS : ∀ i, i < n → CtSm (c i) 1048576) (hk : kn c k n ≤ 1073741824) :
  Calls Tryz.prog 15 #[.slice p.ad n p.cap, .int .i64 (k : Int)] w fun e w' => e = .returned (.int .i64 ((kn c k n : Nat) : Int)) ∧ CMk w w' p n c m k n 0 (ctL (c n) (m n)) := by
 obtain ⟨ad, b, off, cap⟩ := p
 dsimp only
 have HO := hide hO
 have HS := hide hS
 have Hk := hide hk
 have Hst := hide (CMk.start (k := k) hO)
 clear hO hS hk
 go_enter Tryz.func15, Tryz.ntmps15
 go_wp2
 go_loopw [1, 5] (fun t i wr => ∃ j : Nat, j ≤ n ∧ i = .int .i64 (j : Int) ∧ t = .int .i64 ((kn c k j : Nat) : Int) ∧ CMk w wr ⟨ad, b, off, cap⟩ n c m k j 0 (ctL (c j) (m j))) (fun _ i _ => n - (intOf i).toNat)
 case atStart => exact ⟨0, Nat.zero_le _, rfl, rfl, Hst.out⟩
 case round =>
  clear Hst
  obtain ⟨j, hj, rfl, rfl, hC⟩ := hrel
  by_cases hlt : j < n
  ·have hat := HO.out.seg.at' (by omega)
   dsimp only at hat
   subst hat
   have hjn : (j : Int) < (n : Int) := by omega
   have Hmx : Hid (kn c k (j + 1) ≤ 1073741824) := hide (by have := preS_le (fun i => preS (szc (c i)) 34) (i := j + 1) (n := n) (by omega); have := Hk.out; unfold kn at *; omega)
   obtain ⟨K, hK⟩ : ∃ K : Nat → Nat, kcc (c j) (kn c k j) = K := ⟨_, rfl⟩
   have hk0 : kn c k j = K 0 := by rw [← hK]; rfl
   have Hend : Hid (K 34 = kn c k (j + 1)) := hide (by rw [← hK]; exact Nat.add_assoc _ _ _)
   have Hle : Hid (∀ t, t ≤ 34 → K t ≤ 1073741824) := hide (fun t ht => by have h1 := Hend.out; have h2 := Hmx.out; rw [← h1, ← hK] at h2; rw [← hK]; have := preS_le (szc (c j)) ht; unfold kcc at *; omega)
   have Hst : Hid (∀ t, K (t + 1) = K t + szc (c j) t) := hide (fun t => by rw [← hK]; exact (Nat.add_assoc _ _ _).symm)
   have HK := hide hK
   have H0 : Hid (CMk w wr ⟨some ⟨b, off, none⟩, b, off, cap⟩ n c m k j 0 (upL (c j) (m j) K 0)) := hide hC
   rw [hk0]
   clear hC hK hk0
   have u := (H0.out.cur hlt 0 _ (by decide) rfl).1
   have y := (H0.out.cur hlt 0 _ (by decide) rfl).2
   rw [Nat.add_zero] at u y
   have hb : (K 0 : Int) ≤ 1073741824 := by have := Hle.out 0 (by decide); omega
   go_upto_region 5 with fail
   have H1 := H0.out.put (t := 0) (v := mk1 (K 0)) HO.out hlt (by decide) (by decide) rfl
   rw [Nat.add_zero] at H1
   obtain ⟨W0, hW⟩ : ∃ W, wr.setCell ⟨b, off + j * 34, none⟩ (mk1 (K 0)) = W := ⟨_, rfl⟩
   unfold mk1 at hW
   unfold mk1 at H1
   dsimp only at H1
   rw [hW] at H1 ⊢
   replace H0 := hide H1
   have hi : (K 0 : Int) + 1 = ((K 1 : Nat) : Int) := by have : K 1 = K 0 + 1 := Hst.out 0; omega
   clear u y H1 hW
   go_upto_region 6 with fail
   try rw [hi]
   clear hb hi
   have u := (H0.out.cur hlt 1 _ (by decide) rfl).1
   have HC := hide (markStrC (m j).i.ad (m j).i.b (m j).i.off (c j).ni (m j).i.cap (K 1) W0 (H0.out.own HO.out hlt (r := 0) (by decide)) (HS.out j hlt).i (Hle.out 1 (by decide)))
   have hi : K 2 = K 1 + szc (c j) 1 := Hst.out 1
   have HI := hide hi
   unfold MkC at HC
   rw [show K 1 + (c j).ni = K 2 from hi.symm] at HC
   clear hi
   go_wp2_with fail
   refine HC.out.mono ?_
   rintro e W1 ⟨rfl, hm, hh⟩
   have HH : PtH (c j) (m j) K 0 W1 := fun W hW => hh W (hW.sub (fun b hb => .inl hb))
   rw [← HK.out] at HH
   replace H0 := hide (((H0.out.mark HO.out hlt (r := 0) (by decide) hm HH).skip rfl))
   clear u hm hh HC HH HI
   have u := (H0.out.cur hlt 2 _ (by decide) rfl).1
   have HC := hide (markStrC (m j).s.ad (m j).s.b (m j).s.off (c j).ns (m j).s.cap (K 2) W1 (H0.out.own HO.out hlt (r := 1) (by decide)) (HS.out j hlt).s (Hle.out 2 (by decide)))
   have hi : K 3 = K 2 + szc (c j) 2 := Hst.out 2
   have HI := hide hi
   unfold MkC at HC
   rw [show K 2 + (c j).ns = K 3 from hi.symm] at HC
   clear hi
   go_wp2_with fail
   refine HC.out.mono ?_
   rintro e W2 ⟨rfl, hm, hh⟩
   have HH : PtH (c j) (m j) K 1 W2 := fun W hW => hh W (hW.sub (fun b hb => .inl hb))
   rw [← HK.out] at HH
   replace H0 := hide (((H0.out.mark HO.out hlt (r := 1) (by decide) hm HH).skip rfl))
   clear u hm hh HC HH HI
   have u := (H0.out.cur hlt 3 _ (by decide) rfl).1
   have y := (H0.out.cur hlt 3 _ (by decide) rfl).2
   have hb : (K 3 : Int) ≤ 1073741824 := by have := Hle.out 3 (by decide); omega
   go_upto_region 9 with fail
   have H1 := H0.out.put (t := 3) (v := mk1 (K 3)) HO.out hlt (by decide) (by decide) rfl
   obtain ⟨W3, hW⟩ : ∃ W, W2.setCell ⟨b, off + j * 34 + 3, none⟩ (mk1 (K 3)) = W := ⟨_, rfl⟩
   unfold mk1 at hW
   unfold mk1 at H1
   dsimp only at H1
   rw [hW] at H1 ⊢
   replace H0 := hide H1
   have hi : (K 3 : Int) + 1 = ((K 4 : Nat) : Int) := by have : K 4 = K 3 + 1 := Hst.out 3; omega
   clear u y H1 hW
   go_upto_region 10 with fail
   try rw [hi]
   clear hb hi
   have u := (H0.out.cur hlt 4 _ (by decide) rfl).1
   have y := (H0.out.cur hlt 4 _ (by decide) rfl).2
   have hb : (K 4 : Int) ≤ 1073741824 := by have := Hle.out 4 (by decide); omega
   go_upto_region 11 with fail
   have H1 := H0.out.put (t := 4) (v := mk1 (K 4)) HO.out hlt (by decide) (by decide) rfl
   obtain ⟨W4, hW⟩ : ∃ W, W3.setCell ⟨b, off + j * 34 + 4, none⟩ (mk1 (K 4)) = W := ⟨_, rfl⟩
   unfold mk1 at hW
   unfold mk1 at H1
   dsimp only at H1
   rw [hW] at H1 ⊢
   replace H0 := hide H1
   have hi : (K 4 : Int) + 1 = ((K 5 : Nat) : Int) := by have : K 5 = K 4 + 1 := Hst.out 4; omega
   clear u y H1 hW
   go_upto_region 12 with fail
   try rw [hi]
   clear hb hi
   have u := (H0.out.cur hlt 5 _ (by decide) rfl).1
   have y := (H0.out.cur hlt 5 _ (by decide) rfl).2
   have hb : (K 5 : Int) ≤ 1073741824 := by have := Hle.out 5 (by decide); omega
   go_upto_region 13 with fail
   have H1 := H0.out.put (t := 5) (v := mk1 (K 5)) HO.out hlt (by decide) (by decide) rfl
   obtain ⟨W5, hW⟩ : ∃ W, W4.setCell ⟨b, off + j * 34 + 5, none⟩ (mk1 (K 5)) = W := ⟨_, rfl⟩
   unfold mk1 at hW
   unfold mk1 at H1
   dsimp only at H1
   rw [hW] at H1 ⊢
   replace H0 := hide H1
   have hi : (K 5 : Int) + 1 = ((K 6 : Nat) : Int) := by have : K 6 = K 5 + 1 := Hst.out 5; omega
   clear u y H1 hW
   go_upto_region 14 with fail
   try rw [hi]
   clear hb hi
   have u := (H0.out.cur hlt 6 _ (by decide) rfl).1
   have HC := hide (markIntC (m j).k.ad (m j).k.b (m j).k.off (c j).k.n (m j).k.cap (K 6) (c j).k.f W5 (H0.out.own HO.out hlt (r := 2) (by decide)) (HS.out j hlt).k (Hle.out 6 (by decide)))
   have hi : K 7 = K 6 + szc (c j) 6 := Hst.out 6
   have HI := hide hi
   unfold MkC at HC
   rw [show K 6 + (c j).k.n = K 7 from hi.symm] at HC
   clear hi
   go_wp2_with fail
   refine HC.out.mono ?_
   rintro e W6 ⟨rfl, hm, hh⟩
   have HH : PtH (c j) (m j) K 2 W6 := fun W hW => hh W (hW.sub (fun b hb => .inl hb))
   rw [← HK.out] at HH
   replace H0 := hide (((H0.out.mark HO.out hlt (r := 2) (by decide) hm HH).skip rfl))
   clear u hm hh HC HH HI
   have u := (H0.out.cur hlt 7 _ (by decide) rfl).1
   have y := (H0.out.cur hlt 7 _ (by decide) rfl).2
   have hb : (K 7 : Int) ≤ 1073741824 := by have := Hle.out 7 (by decide); omega
   go_upto_region 16 with fail
   have H1 := H0.out.put (t := 7) (v := mk1 (K 7)) HO.out hlt (by decide) (by decide) rfl
   obtain ⟨W7, hW⟩ : ∃ W, W6.setCell ⟨b, off + j * 34 + 7, none⟩ (mk1 (K 7)) = W := ⟨_, rfl⟩
   unfold mk1 at hW
   unfold mk1 at H1
   dsimp only at H1
   rw [hW] at H1 ⊢
   replace H0 := hide H1
   have hi : (K 7 : Int) + 1 = ((K 8 : Nat) : Int) := by have : K 8 = K 7 + 1 := Hst.out 7; omega
   clear u y H1 hW
   go_upto_region 17 with fail
   try rw [hi]
   clear hb hi
   have u := (H0.out.cur hlt 8 _ (by decide) rfl).1
   have y := (H0.out.cur hlt 8 _ (by decide) rfl).2
   have hb : (K 8 : Int) ≤ 1073741824 := by have := Hle.out 8 (by decide); omega
   go_upto_region 18 with fail
   have H1 := H0.out.put (t := 8) (v := mk1 (K 8)) HO.out hlt (by decide) (by decide) rfl
   obtain ⟨W8, hW⟩ : ∃ W, W7.setCell ⟨b, off + j * 34 + 8, none⟩ (mk1 (K 8)) = W := ⟨_, rfl⟩
   unfold mk1 at hW
   unfold mk1 at H1
   dsimp only at H1
   rw [hW] at H1 ⊢
   replace H0 := hide H1
   have hi : (K 8 : Int) + 1 = ((K 9 : Nat) : Int) := by have : K 9 = K 8 + 1 := Hst.out 8; omega
   clear u y H1 hW
   go_upto_region 19 with fail
   try rw [hi]
   clear hb hi
   have u := (H0.out.cur hlt 9 _ (by decide) rfl).1
   have y := (H0.out.cur hlt 9 _ (by decide) rfl).2
   have hb : (K 9 : Int) ≤ 1073741824 := by have := Hle.out 9 (by decide); omega
   go_upto_region 20 with fail
   have H1 := H0.out.put (t := 9) (v := mk1 (K 9)) HO.out hlt (by decide) (by decide) rfl
   obtain ⟨W9, hW⟩ : ∃ W, W8.setCell ⟨b, off + j * 34 + 9, none⟩ (mk1 (K 9)) = W := ⟨_, rfl⟩
   unfold mk1 at hW
   unfold mk1 at H1
   dsimp only at H1
   rw [hW] at H1 ⊢
   replace H0 := hide H1
   have hi : (K 9 : Int) + 1 = ((K 10 : Nat) : Int) := by have : K 10 = K 9 + 1 := Hst.out 9; omega
   clear u y H1 hW
   go_upto_region 21 with fail
   try rw [hi]
   clear hb hi
   have u := (H0.out.cur hlt 10 _ (by decide) rfl).1
   have y := (H0.out.cur hlt 10 _ (by decide) rfl).2
   have hb : (K 10 : Int) ≤ 1073741824 := by have := Hle.out 10 (by decide); omega
   go_upto_region 22 with fail
   have H1 := H0.out.put (t := 10) (v := mk1 (K 10)) HO.out hlt (by decide) (by decide) rfl
   obtain ⟨W10, hW⟩ : ∃ W, W9.setCell ⟨b, off + j * 34 + 10, none⟩ (mk1 (K 10)) = W := ⟨_, rfl⟩
   unfold mk1 at hW
   unfold mk1 at H1
   dsimp only at H1
   rw [hW] at H1 ⊢
   replace H0 := hide H1
   have hi : (K 10 : Int) + 1 = ((K 11 : Nat) : Int) := by have : K 11 = K 10 + 1 := Hst.out 10; omega
   clear u y H1 hW
   go_upto_region 23 with fail
   try rw [hi]
   clear hb hi
   have u := (H0.out.cur hlt 11 _ (by decide) rfl).1
   have y := (H0.out.cur hlt 11 _ (by decide) rfl).2
   have hb : (K 11 : Int) ≤ 1073741824 := by have := Hle.out 11 (by decide); omega
   go_upto_region 24 with fail
   have H1 := H0.out.put (t := 11) (v := mk1 (K 11)) HO.out hlt (by decide) (by decide) rfl
   obtain ⟨W11, hW⟩ : ∃ W, W10.setCell ⟨b, off + j * 34 + 11, none⟩ (mk1 (K 11)) = W := ⟨_, rfl⟩
   unfold mk1 at hW
   unfold mk1 at H1
   dsimp only at H1
   rw [hW] at H1 ⊢
   replace H0 := hide H1
   have hi : (K 11 : Int) + 1 = ((K 12 : Nat) : Int) := by have : K 12 = K 11 + 1 := Hst.out 11; omega
   clear u y H1 hW
   go_upto_region 25 with fail
   try rw [hi]
   clear hb hi
   have u := (H0.out.cur hlt 12 _ (by decide) rfl).1
   have y := (H0.out.cur hlt 12 _ (by decide) rfl).2
   have hb : (K 12 : Int) ≤ 1073741824 := by have := Hle.out 12 (by decide); omega
   go_upto_region 26 with fail
   have H1 := H0.out.put (t := 12) (v := mk1 (K 12)) HO.out hlt (by decide) (by decide) rfl
   obtain ⟨W12, hW⟩ : ∃ W, W11.setCell ⟨b, off + j * 34 + 12, none⟩ (mk1 (K 12)) = W := ⟨_, rfl⟩
   unfold mk1 at hW
   unfold mk1 at H1
   dsimp only at H1
   rw [hW] at H1 ⊢
   replace H0 := hide H1
   have hi : (K 12 : Int) + 1 = ((K 13 : Nat) : Int) := by have : K 13 = K 12 + 1 := Hst.out 12; omega
   clear u y H1 hW
   go_upto_region 27 with fail
   try rw [hi]
   clear hb hi
   have u := (H0.out.cur hlt 13 _ (by decide) rfl).1
   have y := (H0.out.cur hlt 13 _ (by decide) rfl).2
   have hb : (K 13 : Int) ≤ 1073741824 := by have := Hle.out 13 (by decide); omega
   go_upto_region 28 with fail
   have H1 := H0.out.put (t := 13) (v := mk1 (K 13)) HO.out hlt (by decide) (by decide) rfl
   obtain ⟨W13, hW⟩ : ∃ W, W12.setCell ⟨b, off + j * 34 + 13, none⟩ (mk1 (K 13)) = W := ⟨_, rfl⟩
   unfold mk1 at hW
   unfold mk1 at H1
   dsimp only at H1
   rw [hW] at H1 ⊢
   replace H0 := hide H1
   have hi : (K 13 : Int) + 1 = ((K 14 : Nat) : Int) := by have : K 14 = K 13 + 1 := Hst.out 13; omega
   clear u y H1 hW
   go_upto_region 29 with fail
   try rw [hi]
   clear hb hi
   have u := (H0.out.cur hlt 14 _ (by decide) rfl).1
   have y := (H0.out.cur hlt 14 _ (by decide) rfl).2
   have hb : (K 14 : Int) ≤ 1073741824 := by have := Hle.out 14 (by decide); omega
   go_upto_region 30 with fail
   have H1 := H0.out.put (t := 14) (v := mk1 (K 14)) HO.out hlt (by decide) (by decide) rfl
   obtain ⟨W14, hW⟩ : ∃ W, W13.setCell ⟨b, off + j * 34 + 14, none⟩ (mk1 (K 14)) = W := ⟨_, rfl⟩
   unfold mk1 at hW
   unfold mk1 at H1
   dsimp only at H1
   rw [hW] at H1 ⊢
   replace H0 := hide H1
   have hi : (K 14 : Int) + 1 = ((K 15 : Nat) : Int) := by have : K 15 = K 14 + 1 := Hst.out 14; omega
   clear u y H1 hW
   go_upto_region 31 with fail
   try rw [hi]
   clear hb hi
   have u := (H0.out.cur hlt 15 _ (by decide) rfl).1
   have y := (H0.out.cur hlt 15 _ (by decide) rfl).2
   have hb : (K 15 : Int) ≤ 1073741824 := by have := Hle.out 15 (by decide); omega
   go_upto_region 32 with fail
   have H1 := H0.out.put (t := 15) (v := mk1 (K 15)) HO.out hlt (by decide) (by decide) rfl
   obtain ⟨W15, hW⟩ : ∃ W, W14.setCell ⟨b, off + j * 34 + 15, none⟩ (mk1 (K 15)) = W := ⟨_, rfl⟩
   unfold mk1 at hW
   unfold mk1 at H1
   dsimp only at H1
   rw [hW] at H1 ⊢
   replace H0 := hide H1
   have hi : (K 15 : Int) + 1 = ((K 16 : Nat) : Int) := by have : K 16 = K 15 + 1 := Hst.out 15; omega
   clear u y H1 hW
   go_upto_region 33 with fail
   try rw [hi]
   clear hb hi
   have u := (H0.out.cur hlt 16 _ (by decide) rfl).1
   have y := (H0.out.cur hlt 16 _ (by decide) rfl).2
   have hb : (K 16 : Int) ≤ 1073741824 := by have := Hle.out 16 (by decide); omega
   go_upto_region 34 with fail
   have H1 := H0.out.put (t := 16) (v := fl (K 16)) HO.out hlt (by decide) (by decide) rfl
   obtain ⟨W16, hW⟩ : ∃ W, W15.setCell ⟨b, off + j * 34 + 16, none⟩ (fl (K 16)) = W := ⟨_, rfl⟩
   unfold fl at hW
   unfold fl at H1
   dsimp only at H1
   rw [hW] at H1 ⊢
   replace H0 := hide H1
   have hi : (K 16 : Int) + 1 = ((K 17 : Nat) : Int) := by have : K 17 = K 16 + 1 := Hst.out 16; omega
   clear u y H1 hW
   go_upto_region 35 with fail
   try rw [hi]
   clear hb hi
   have u := (H0.out.cur hlt 17 _ (by decide) rfl).1
   have y := (H0.out.cur hlt 17 _ (by decide) rfl).2
   have hb : (K 17 : Int) ≤ 1073741824 := by have := Hle.out 17 (by decide); omega
   go_upto_region 36 with fail
   have H1 := H0.out.put (t := 17) (v := mk1 (K 17)) HO.out hlt (by decide) (by decide) rfl
   obtain ⟨W17, hW⟩ : ∃ W, W16.setCell ⟨b, off + j * 34 + 17, none⟩ (mk1 (K 17)) = W := ⟨_, rfl⟩
   unfold mk1 at hW
   unfold mk1 at H1
   dsimp only at H1
   rw [hW] at H1 ⊢
   replace H0 := hide H1
   have hi : (K 17 : Int) + 1 = ((K 18 : Nat) : Int) := by have : K 18 = K 17 + 1 := Hst.out 17; omega
   clear u y H1 hW
   go_upto_region 37 with fail
   try rw [hi]
   clear hb hi
   have u := (H0.out.cur hlt 18 _ (by decide) rfl).1
   have y := (H0.out.cur hlt 18 _ (by decide) rfl).2
   have hb : (K 18 : Int) ≤ 1073741824 := by have := Hle.out 18 (by decide); omega
   go_upto_region 38 with fail
   have H1 := H0.out.put (t := 18) (v := mk1 (K 18)) HO.out hlt (by decide) (by decide) rfl
   obtain ⟨W18, hW⟩ : ∃ W, W17.setCell ⟨b, off + j * 34 + 18, none⟩ (mk1 (K 18)) = W := ⟨_, rfl⟩
   unfold mk1 at hW
   unfold mk1 at H1
   dsimp only at H1
   rw [hW] at H1 ⊢
   replace H0 := hide H1
   have hi : (K 18 : Int) + 1 = ((K 19 : Nat) : Int) := by have : K 19 = K 18 + 1 := Hst.out 18; omega
   clear u y H1 hW
   go_upto_region 39 with fail
   try rw [hi]
   clear hb hi
   have u := (H0.out.cur hlt 19 _ (by decide) rfl).1
   have y := (H0.out.cur hlt 19 _ (by decide) rfl).2
   have hb : (K 19 : Int) ≤ 1073741824 := by have := Hle.out 19 (by decide); omega
   go_upto_region 40 with fail
   have H1 := H0.out.put (t := 19) (v := mk1 (K 19)) HO.out hlt (by decide) (by decide) rfl
   obtain ⟨W19, hW⟩ : ∃ W, W18.setCell ⟨b, off + j * 34 + 19, none⟩ (mk1 (K 19)) = W := ⟨_, rfl⟩
   unfold mk1 at hW
   unfold mk1 at H1
   dsimp only at H1
   rw [hW] at H1 ⊢
   replace H0 := hide H1
   have hi : (K 19 : Int) + 1 = ((K 20 : Nat) : Int) := by have : K 20 = K 19 + 1 := Hst.out 19; omega
   clear u y H1 hW
   go_upto_region 41 with fail
   try rw [hi]
   clear hb hi
   have u := (H0.out.cur hlt 20 _ (by decide) rfl).1
   have y := (H0.out.cur hlt 20 _ (by decide) rfl).2
   have hb : (K 20 : Int) ≤ 1073741824 := by have := Hle.out 20 (by decide); omega
   go_upto_region 42 with fail
   have H1 := H0.out.put (t := 20) (v := mk1 (K 20)) HO.out hlt (by decide) (by decide) rfl
   obtain ⟨W20, hW⟩ : ∃ W, W19.setCell ⟨b, off + j * 34 + 20, none⟩ (mk1 (K 20)) = W := ⟨_, rfl⟩
   unfold mk1 at hW
   unfold mk1 at H1
   dsimp only at H1
   rw [hW] at H1 ⊢
   replace H0 := hide H1
   have hi : (K 20 : Int) + 1 = ((K 21 : Nat) : Int) := by have : K 21 = K 20 + 1 := Hst.out 20; omega
   clear u y H1 hW
   go_upto_region 43 with fail
   try rw [hi]
   clear hb hi
   have u := (H0.out.cur hlt 21 _ (by decide) rfl).1
   have y := (H0.out.cur hlt 21 _ (by decide) rfl).2
   have hb : (K 21 : Int) ≤ 1073741824 := by have := Hle.out 21 (by decide); omega
   go_upto_region 44 with fail
   have H1 := H0.out.put (t := 21) (v := mk1 (K 21)) HO.out hlt (by decide) (by decide) rfl
   obtain ⟨W21, hW⟩ : ∃ W, W20.setCell ⟨b, off + j * 34 + 21, none⟩ (mk1 (K 21)) = W := ⟨_, rfl⟩
   unfold mk1 at hW
   unfold mk1 at H1
   dsimp only at H1
   rw [hW] at H1 ⊢
   replace H0 := hide H1
   have hi : (K 21 : Int) + 1 = ((K 22 : Nat) : Int) := by have : K 22 = K 21 + 1 := Hst.out 21; omega
   clear u y H1 hW
   go_upto_region 45 with fail
   try rw [hi]
   clear hb hi
   have u := (H0.out.cur hlt 22 _ (by decide) rfl).1
   have y := (H0.out.cur hlt 22 _ (by decide) rfl).2
   have hb : (K 22 : Int) ≤ 1073741824 := by have := Hle.out 22 (by decide); omega
   go_upto_region 46 with fail
   have H1 := H0.out.put (t := 22) (v := mk1 (K 22)) HO.out hlt (by decide) (by decide) rfl
   obtain ⟨W22, hW⟩ : ∃ W, W21.setCell ⟨b, off + j * 34 + 22, none⟩ (mk1 (K 22)) = W := ⟨_, rfl⟩
   unfold mk1 at hW
   unfold mk1 at H1
   dsimp only at H1
   rw [hW] at H1 ⊢
   replace H0 := hide H1
   have hi : (K 22 : Int) + 1 = ((K 23 : Nat) : Int) := by have : K 23 = K 22 + 1 := Hst.out 22; omega
   clear u y H1 hW
   go_upto_region 47 with fail
   try rw [hi]
   clear hb hi
   have u := (H0.out.cur hlt 23 _ (by decide) rfl).1
   have y := (H0.out.cur hlt 23 _ (by decide) rfl).2
   have hb : (K 23 : Int) ≤ 1073741824 := by have := Hle.out 23 (by decide); omega
   go_upto_region 48 with fail
   have H1 := H0.out.put (t := 23) (v := mk1 (K 23)) HO.out hlt (by decide) (by decide) rfl
   obtain ⟨W23, hW⟩ : ∃ W, W22.setCell ⟨b, off + j * 34 + 23, none⟩ (mk1 (K 23)) = W := ⟨_, rfl⟩
   unfold mk1 at hW
   unfold mk1 at H1
   dsimp only at H1
   rw [hW] at H1 ⊢
   replace H0 := hide H1
   have hi : (K 23 : Int) + 1 = ((K 24 : Nat) : Int) := by have : K 24 = K 23 + 1 := Hst.out 23; omega
   clear u y H1 hW
   go_upto_region 49 with fail
   try rw [hi]
   clear hb hi
   have u := (H0.out.cur hlt 24 _ (by decide) rfl).1
   have y := (H0.out.cur hlt 24 _ (by decide) rfl).2
   have hb : (K 24 : Int) ≤ 1073741824 := by have := Hle.out 24 (by decide); omega
   go_upto_region 50 with fail
   have H1 := H0.out.put (t := 24) (v := mk1 (K 24)) HO.out hlt (by decide) (by decide) rfl
   obtain ⟨W24, hW⟩ : ∃ W, W23.setCell ⟨b, off + j * 34 + 24, none⟩ (mk1 (K 24)) = W := ⟨_, rfl⟩
   unfold mk1 at hW
   unfold mk1 at H1
   dsimp only at H1
   rw [hW] at H1 ⊢
   replace H0 := hide H1
   have hi : (K 24 : Int) + 1 = ((K 25 : Nat) : Int) := by have : K 25 = K 24 + 1 := Hst.out 24; omega
   clear u y H1 hW
   go_upto_region 51 with fail
   try rw [hi]
   clear hb hi
   have u := (H0.out.cur hlt 25 _ (by decide) rfl).1
   have y := (H0.out.cur hlt 25 _ (by decide) rfl).2
   have hb : (K 25 : Int) ≤ 1073741824 := by have := Hle.out 25 (by decide); omega
   go_upto_region 52 with fail
   have H1 := H0.out.put (t := 25) (v := fl (K 25)) HO.out hlt (by decide) (by decide) rfl
   obtain ⟨W25, hW⟩ : ∃ W, W24.setCell ⟨b, off + j * 34 + 25, none⟩ (fl (K 25)) = W := ⟨_, rfl⟩
   unfold fl at hW
   unfold fl at H1
   dsimp only at H1
   rw [hW] at H1 ⊢
   replace H0 := hide H1
   have hi : (K 25 : Int) + 1 = ((K 26 : Nat) : Int) := by have : K 26 = K 25 + 1 := Hst.out 25; omega
   clear u y H1 hW
   go_upto_region 53 with fail
   try rw [hi]
   clear hb hi
   have u := (H0.out.cur hlt 26 _ (by decide) rfl).1
   have y := (H0.out.cur hlt 26 _ (by decide) rfl).2
   have hb : (K 26 : Int) ≤ 1073741824 := by have := Hle.out 26 (by decide); omega
   go_upto_region 54 with fail
   have H1 := H0.out.put (t := 26) (v := mk1 (K 26)) HO.out hlt (by decide) (by decide) rfl
   obtain ⟨W26, hW⟩ : ∃ W, W25.setCell ⟨b, off + j * 34 + 26, none⟩ (mk1 (K 26)) = W := ⟨_, rfl⟩
   unfold mk1 at hW
   unfold mk1 at H1
   dsimp only at H1
   rw [hW] at H1 ⊢
   replace H0 := hide H1
   have hi : (K 26 : Int) + 1 = ((K 27 : Nat) : Int) := by have : K 27 = K 26 + 1 := Hst.out 26; omega
   clear u y H1 hW
   go_upto_region 55 with fail
   try rw [hi]
   clear hb hi
   have u := (H0.out.cur hlt 27 _ (by decide) rfl).1
   have y := (H0.out.cur hlt 27 _ (by decide) rfl).2
   have hb : (K 27 : Int) ≤ 1073741824 := by have := Hle.out 27 (by decide); omega
   go_upto_region 56 with fail
   have H1 := H0.out.put (t := 27) (v := mk1 (K 27)) HO.out hlt (by decide) (by decide) rfl
   obtain ⟨W27, hW⟩ : ∃ W, W26.setCell ⟨b, off + j * 34 + 27, none⟩ (mk1 (K 27)) = W := ⟨_, rfl⟩
   unfold mk1 at hW
   unfold mk1 at H1
   dsimp only at H1
   rw [hW] at H1 ⊢
   replace H0 := hide H1
   have hi : (K 27 : Int) + 1 = ((K 28 : Nat) : Int) := by have : K 28 = K 27 + 1 := Hst.out 27; omega
   clear u y H1 hW
   go_upto_region 57 with fail
   try rw [hi]
   clear hb hi
   have u := (H0.out.cur hlt 28 _ (by decide) rfl).1
   have HC := hide (markStrC (m j).x.h.ad (m j).x.h.b (m j).x.h.off (c j).x.nh (m j).x.h.cap (K 28) W27 (H0.out.own HO.out hlt (r := 3) (by decide)) (HS.out j hlt).x.h (Hle.out 28 (by decide)))
   have hi : K 29 = K 28 + szc (c j) 28 := Hst.out 28
   have HI := hide hi
   unfold MkC at HC
   rw [show K 28 + (c j).x.nh = K 29 from hi.symm] at HC
   clear hi
   go_wp2_with fail
   refine HC.out.mono ?_
   rintro e W28 ⟨rfl, hm, hh⟩
   have HH : PtH (c j) (m j) K 3 W28 := fun W hW => hh W (hW.sub (fun b hb => .inl hb))
   rw [← HK.out] at HH
   replace H0 := hide (((H0.out.mark HO.out hlt (r := 3) (by decide) hm HH).skip rfl))
   clear u hm hh HC HH HI
   have u := (H0.out.cur hlt 29 _ (by decide) rfl).1
   have HC := hide (markNetsC (m j).x.n (m j).x.ni (c j).x.nn (K 29) (c j).x.ln (c j).x.fn W28 (H0.out.own HO.out hlt (r := 4) (by decide)) (HS.out j hlt).x.n (HS.out j hlt).x.ns (by have := Hle.out 30 (by decide); have : K 30 = K 29 + preS (c j).x.ln (c j).x.nn := Hst.out 29; omega))
   have hi : K 30 = K 29 + szc (c j) 29 := Hst.out 29
   have HI := hide hi
   unfold MkC at HC
   rw [show K 29 + preS (c j).x.ln (c j).x.nn = K 30 from hi.symm] at HC
   clear hi
   go_wp2_with fail
   refine HC.out.mono ?_
   rintro e W29 ⟨rfl, hm, hh⟩
   have HH : PtH (c j) (m j) K 4 W29 := fun W hW => hh W (hW.sub (fun b hb => hb.elim (fun h => .inr ⟨rfl, h⟩) (fun h => .inl h)))
   rw [← HK.out] at HH
   replace H0 := hide (((H0.out.mark HO.out hlt (r := 4) (by decide) hm HH).skip rfl))
   clear u hm hh HC HH HI
   have u := (H0.out.cur hlt 30 _ (by decide) rfl).1
   have HC := hide (markStrC (m j).x.a.ad (m j).x.a.b (m j).x.a.off (c j).x.na (m j).x.a.cap (K 30) W29 (H0.out.own HO.out hlt (r := 5) (by decide)) (HS.out j hlt).x.a (Hle.out 30 (by decide)))
   have hi : K 31 = K 30 + szc (c j) 30 := Hst.out 30
   have HI := hide hi
   unfold MkC at HC
   rw [show K 30 + (c j).x.na = K 31 from hi.symm] at HC
   clear hi
   go_wp2_with fail
   refine HC.out.mono ?_
   rintro e W30 ⟨rfl, hm, hh⟩
   have HH : PtH (c j) (m j) K 5 W30 := fun W hW => hh W (hW.sub (fun b hb => .inl hb))
   rw [← HK.out] at HH
   replace H0 := hide (((H0.out.mark HO.out hlt (r := 5) (by decide) hm HH).skip rfl))
   clear u hm hh HC HH HI
   have u := (H0.out.cur hlt 31 _ (by decide) rfl).1
   have HC := hide (markStrC (m j).x.d.ad (m j).x.d.b (m j).x.d.off (c j).x.nd (m j).x.d.cap (K 31) W30 (H0.out.own HO.out hlt (r := 6) (by decide)) (HS.out j hlt).x.d (Hle.out 31 (by decide)))
   have hi : K 32 = K 31 + szc (c j) 31 := Hst.out 31
   have HI := hide hi
   unfold MkC at HC
   rw [show K 31 + (c j).x.nd = K 32 from hi.symm] at HC
   clear hi
   go_wp2_with fail
   refine HC.out.mono ?_
   rintro e W31 ⟨rfl, hm, hh⟩
   have HH : PtH (c j) (m j) K 6 W31 := fun W hW => hh W (hW.sub (fun b hb => .inl hb))
   rw [← HK.out] at HH
   replace H0 := hide (((H0.out.mark HO.out hlt (r := 6) (by decide) hm HH).skip rfl))
   clear u hm hh HC HH HI
   have u := (H0.out.cur hlt 32 _ (by decide) rfl).1
   have HC := hide (markIntC (m j).x.p.ad (m j).x.p.b (m j).x.p.off (c j).x.np (m j).x.p.cap (K 32) (c j).x.fp W31 (H0.out.own HO.out hlt (r := 7) (by decide)) (HS.out j hlt).x.p (Hle.out 32 (by decide)))
   have hi : K 33 = K 32 + szc (c j) 32 := Hst.out 32
   have HI := hide hi
   unfold MkC at HC
   rw [show K 32 + (c j).x.np = K 33 from hi.symm] at HC
   clear hi
   go_wp2_with fail
   refine HC.out.mono ?_
   rintro e W32 ⟨rfl, hm, hh⟩
   have HH : PtH (c j) (m j) K 7 W32 := fun W hW => hh W (hW.sub (fun b hb => .inl hb))
   rw [← HK.out] at HH
   replace H0 := hide (((H0.out.mark HO.out hlt (r := 7) (by decide) hm HH).skip rfl))
   clear u hm hh HC HH HI
   have u := (H0.out.cur hlt 33 _ (by decide) rfl).1
   have HC := hide (markByteC (m j).g.ad (m j).g.b (m j).g.off (c j).ng (m j).g.cap (K 33) (c j).fg W32 (H0.out.own HO.out hlt (r := 8) (by decide)) (HS.out j hlt).g (Hle.out 33 (by decide)))
   have hi : K 34 = K 33 + szc (c j) 33 := Hst.out 33
   have HI := hide hi
   unfold MkC at HC
   rw [show K 33 + (c j).ng = K 34 from hi.symm] at HC
   clear hi
   go_wp2_with fail
   refine HC.out.mono ?_
   rintro e W33 ⟨rfl, hm, hh⟩
   have HH : PtH (c j) (m j) K 8 W33 := fun W hW => hh W (hW.sub (fun b hb => .inl hb))
   rw [← HK.out] at HH
   replace H0 := hide (((H0.out.mark HO.out hlt (r := 8) (by decide) hm HH).skip rfl))
   clear u hm hh HC HH HI
   have HN : Hid (CMk w W33 ⟨some ⟨b, off, none⟩, b, off, cap⟩ n c m k (j + 1) 0 (ctL (c (j + 1)) (m (j + 1)))) := hide (CMk.next (by rw [HK.out]; exact H0.out) hlt)
   go_wp2
   go_roundw
   case rel => exact ⟨j + 1, by omega, by go_num, by rw [Hend.out], HN.out⟩
   case measure => simp [intOf]; omega
  ·obtain rfl : j = n := by omega
   go_wp2
   go_ret
   exact ⟨rfl, hC⟩
end Go.Proofs.YtfhiiakoilkbkaaGreatDoor
