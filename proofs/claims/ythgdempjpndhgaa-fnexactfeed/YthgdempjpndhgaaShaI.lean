/- Walks: Feed of the model; Feed of both, whatever the stream and the data; streams compared, marked, held. -/
import Derived.Test.YthgdempjpndhgaaShaH
namespace Go.Proofs.Ythgdempjpndhgaa
set_option linter.unusedVariables false
set_option linter.unusedSimpArgs false
open Go.RowKit

set_option maxHeartbeats 1600000 in
set_option maxRecDepth 100000 in
theorem eqStream_any (h0 h1 h2 h3 h4 h5 h6 h7 : Int) (a a2 : Option Addr) (c c2 g g2 n : Nat) (f : Nat → Int) (many : Int) (w : World) (hs : BSeg w a g 0 n f) (hs2 : BSeg w a2 g2 0 n f) (hn : n ≤ 1048576) :
    Calls Try.prog 30 #[.agg #[.int .i64 h0, .int .i64 h1, .int .i64 h2, .int .i64 h3, .int .i64 h4, .int .i64 h5, .int .i64 h6, .int .i64 h7, .slice a n c, .int .i64 many], .agg #[.int .i64 h0, .int .i64 h1, .int .i64 h2, .int .i64 h3, .int .i64 h4, .int .i64 h5, .int .i64 h6, .int .i64 h7, .slice a2 n c2, .int .i64 many]] w fun e w' => e = .returned (.bool true) ∧ Ext w w' := by
  have HA : Hid (∀ w : World, Calls Try.prog 73 #[.agg #[.int .i64 h0, .int .i64 h1, .int .i64 h2, .int .i64 h3, .int .i64 h4, .int .i64 h5, .int .i64 h6, .int .i64 h7], .agg #[.int .i64 h0, .int .i64 h1, .int .i64 h2, .int .i64 h3, .int .i64 h4, .int .i64 h5, .int .i64 h6, .int .i64 h7]] w fun e w' => e = .returned (.bool true) ∧ Ext w w') := fun w => eqIntA8_same (fun i => if i = 0 then h0 else if i = 1 then h1 else if i = 2 then h2 else if i = 3 then h3 else if i = 4 then h4 else if i = 5 then h5 else if i = 6 then h6 else h7) w
  go_enter Try.func30, Try.ntmps30
  go_wp2_with fail
  refine (HA.out _).mono ?_
  rintro e w1 ⟨rfl, hw1⟩
  obtain ⟨B0, B1, hE, hz⟩ := box2 w [.int .i64 h0, .int .i64 h1, .int .i64 h2, .int .i64 h3, .int .i64 h4, .int .i64 h5, .int .i64 h6, .int .i64 h7, .slice a n c, .int .i64 many] [.int .i64 h0, .int .i64 h1, .int .i64 h2, .int .i64 h3, .int .i64 h4, .int .i64 h5, .int .i64 h6, .int .i64 h7, .slice a2 n c2, .int .i64 many] 39 39 hw1
  clear hw1 HA
  have k0 := (B0 0 _ rfl).1
  have k1 := (B0 1 _ rfl).1
  have k2 := (B0 2 _ rfl).1
  have k3 := (B0 3 _ rfl).1
  have k4 := (B0 4 _ rfl).1
  have k5 := (B0 5 _ rfl).1
  have k6 := (B0 6 _ rfl).1
  have k7 := (B0 7 _ rfl).1
  have k8 := (B0 8 _ rfl).1
  have k9 := (B0 9 _ rfl).1
  have d0 := (B1 0 _ rfl).1
  have d1 := (B1 1 _ rfl).1
  have d2 := (B1 2 _ rfl).1
  have d3 := (B1 3 _ rfl).1
  have d4 := (B1 4 _ rfl).1
  have d5 := (B1 5 _ rfl).1
  have d6 := (B1 6 _ rfl).1
  have d7 := (B1 7 _ rfl).1
  have d8 := (B1 8 _ rfl).1
  have d9 := (B1 9 _ rfl).1
  go_wp2_with fail
  clear k0 k1 k2 k3 k4 k5 k6 k7 k8 k9 d0 d1 d2 d3 d4 d5 d6 d7 d8 d9
  refine (eqByteS_any _ g 0 n _ f _ g2 0 n _ f _ (hs.of_all hE) (hs2.of_all hE) hn).mono ?_
  rintro e w2 ⟨rfl, q, rfl⟩
  rw [alike_refl]
  have D : Ext w1 (w1.drewN q) := below_drewN (Below.refl _ _) q
  have C0 := B0.ext D (by omega)
  have C1 := B1.ext D (by omega)
  generalize w1.drewN q = w2 at *
  have k0 := (C0 0 _ rfl).1
  have k1 := (C0 1 _ rfl).1
  have k2 := (C0 2 _ rfl).1
  have k3 := (C0 3 _ rfl).1
  have k4 := (C0 4 _ rfl).1
  have k5 := (C0 5 _ rfl).1
  have k6 := (C0 6 _ rfl).1
  have k7 := (C0 7 _ rfl).1
  have k8 := (C0 8 _ rfl).1
  have k9 := (C0 9 _ rfl).1
  have d0 := (C1 0 _ rfl).1
  have d1 := (C1 1 _ rfl).1
  have d2 := (C1 2 _ rfl).1
  have d3 := (C1 3 _ rfl).1
  have d4 := (C1 4 _ rfl).1
  have d5 := (C1 5 _ rfl).1
  have d6 := (C1 6 _ rfl).1
  have d7 := (C1 7 _ rfl).1
  have d8 := (C1 8 _ rfl).1
  have d9 := (C1 9 _ rfl).1
  have hm : (many != many) = false := by simp
  go_wp2
  go_ret
  exact ⟨rfl, hE.trans D⟩

set_option maxHeartbeats 1600000 in
set_option maxRecDepth 100000 in
theorem markStream_gen (h0 h1 h2 h3 h4 h5 h6 h7 : Int) (a : Option Addr) (g n c : Nat) (f : Nat → Int) (many : Int) (w : World) (hs : BOwn w a g 0 n f) (hn : n ≤ 1048576) :
    Calls Try.prog 31 #[.agg #[.int .i64 h0, .int .i64 h1, .int .i64 h2, .int .i64 h3, .int .i64 h4, .int .i64 h5, .int .i64 h6, .int .i64 h7, .slice a n c, .int .i64 many], .int .i64 1] w fun e w' => e = .returned (.int .i64 (1 + n)) ∧ BOwn w' a g 0 n (fun i => (1 + i) % 256) ∧ Grw (fun k => k = g) w w' := by
  have HM : Hid (∀ w, BOwn w a g 0 n f → Calls Try.prog 24 #[.slice a n c, .int .i64 1] w fun e w' => e = .returned (.int .i64 (1 + n)) ∧ BOwn w' a g 0 n (fun i => (1 + i) % 256) ∧ Touch g w w') := hide (fun w h => markByteS_any _ g 0 n c f 1 w h hn (by omega) (by omega))
  have HS := hide hs
  clear hs
  go_enter Try.func31, Try.ntmps31
  go_wp2_with fail
  refine (HM.out _ (HS.out.of_all (Ext.alloc _ _))).mono ?_
  rintro e w1 ⟨rfl, hB, hT⟩
  have HG : Hid (Grw (fun k => k = g) w w1) := hide ((Grw.of_ext (Ext.alloc _ _)).trans (Grw.of_touch hT rfl))
  have HB := hide hB
  clear HM HS hT hB
  go_wp2
  go_ret
  exact ⟨rfl, HB.out, HG.out⟩

set_option maxHeartbeats 1600000 in
set_option maxRecDepth 100000 in
theorem heldStream_gen (h0 h1 h2 h3 h4 h5 h6 h7 : Int) (a : Option Addr) (g n c : Nat) (many : Int) (w : World) (hs : BSeg w a g 0 n (fun i => (1 + i) % 256)) (hn : n ≤ 1048576) :
    Calls Try.prog 32 #[.agg #[.int .i64 h0, .int .i64 h1, .int .i64 h2, .int .i64 h3, .int .i64 h4, .int .i64 h5, .int .i64 h6, .int .i64 h7, .slice a n c, .int .i64 many], .int .i64 1] w fun e w' => e = .returned (.int .i64 (1 + n)) ∧ Ext w w' := by
  have HM : Hid (∀ w, BSeg w a g 0 n (fun i => (1 + i) % 256) → Calls Try.prog 25 #[.slice a n c, .int .i64 1] w fun e w' => e = .returned (.int .i64 (1 + n)) ∧ w' = w) := hide (fun w h => heldByteS_any _ g 0 n c 1 w h hn (by omega) (by omega))
  have HS := hide hs
  have hp : ¬ (1 + (n : Int) < 0) := by omega
  clear hs
  go_enter Try.func32, Try.ntmps32
  go_wp2_with fail
  refine (HM.out _ (HS.out.of_all (Ext.alloc _ _))).mono ?_
  rintro e w1 ⟨rfl, hw⟩
  obtain rfl := hw.symm
  go_wp2
  go_ret
  exact ⟨rfl, Ext.alloc _ _⟩

/-- The answer of Feed. -/
def GivesSt (w : World) (u : Nat → Int) (N : Nat) (F : Nat → Int) (mn : Int) (ok : Bool) (e : Ending) (w' : World) : Prop :=
  ∃ a g cap, e = .returned (.tuple #[.agg #[.int .i64 (u 0), .int .i64 (u 1), .int .i64 (u 2), .int .i64 (u 3), .int .i64 (u 4), .int .i64 (u 5), .int .i64 (u 6), .int .i64 (u 7), .slice a N cap, .int .i64 mn], .bool ok]) ∧ w.heap.size ≤ g ∧ BOwn w' a g 0 N F ∧ Ext w w'

set_option maxHeartbeats 3200000 in
set_option maxRecDepth 100000 in
theorem specFeed_yes (h : Nat → Int) (r : Option Addr) (b off n cap : Nat) (f : Nat → Int) (many : Int) (da : Option Addr) (db doff m dcap : Nat) (fd : Nat → Int) (w : World) (hok : StrOk h n many) (hm : (m : Int) ≤ 20000 - many) (hs : BSeg w r b off n f) (hd : BSeg w da db doff m fd) (hby : ∀ i, i < n → 0 ≤ f i ∧ f i < 256) (hdy : ∀ i, i < m → 0 ≤ fd i ∧ fd i < 256) :
    Calls Try.prog 27 #[.agg #[.int .i64 (h 0), .int .i64 (h 1), .int .i64 (h 2), .int .i64 (h 3), .int .i64 (h 4), .int .i64 (h 5), .int .i64 (h 6), .int .i64 (h 7), .slice r n cap, .int .i64 many], .slice da m dcap] w fun e w' => GivesSt w (blocksV h (catF f n fd) ((n + m) / 64)) ((n + m) % 64) (fun i => catF f n fd (64 * ((n + m) / 64) + i)) (many + m) true e w' := by
  have HO := hide (specStreamOk_at h r n cap many true ⟨fun _ => hok, fun _ => rfl⟩)
  have hb := hok.2
  have hb0 := hb.1
  have hb1 := hb.2.1
  have HF : Hid (∀ w', Ext w w' → Calls Try.prog 62 #[.agg #[.int .i64 (h 0), .int .i64 (h 1), .int .i64 (h 2), .int .i64 (h 3), .int .i64 (h 4), .int .i64 (h 5), .int .i64 (h 6), .int .i64 (h 7), .slice r n cap, .int .i64 many], .slice da m dcap] w' fun e w'' => ∃ v, e = .returned (.agg #[.int .i64 (blocksV h (catF f n fd) ((n + m) / 64) 0), .int .i64 (blocksV h (catF f n fd) ((n + m) / 64) 1), .int .i64 (blocksV h (catF f n fd) ((n + m) / 64) 2), .int .i64 (blocksV h (catF f n fd) ((n + m) / 64) 3), .int .i64 (blocksV h (catF f n fd) ((n + m) / 64) 4), .int .i64 (blocksV h (catF f n fd) ((n + m) / 64) 5), .int .i64 (blocksV h (catF f n fd) ((n + m) / 64) 6), .int .i64 (blocksV h (catF f n fd) ((n + m) / 64) 7), v, .int .i64 (many + m)]) ∧ w''.ownsRow w'.heap.size 5 1 v ((n + m) % 64) (byts (fun i => catF f n fd (64 * ((n + m) / 64) + i)) ((n + m) % 64)) ∧ Ext w' w'') := hide (fun w' he => l5Feed_any h r b off n cap f many da db doff m dcap fd w' hb0 hm (by omega) (hs.of_all he) (hd.of_all he) hby hdy)
  have hnm : ¬ (20000 - many < (m : Int)) := by omega
  obtain ⟨u, hu⟩ : ∃ u : Nat → Int, blocksV h (catF f n fd) ((n + m) / 64) = u := ⟨_, rfl⟩
  obtain ⟨fr, hfr⟩ : ∃ fr : Nat → Int, (fun i => catF f n fd (64 * ((n + m) / 64) + i)) = fr := ⟨_, rfl⟩
  obtain ⟨N, hN⟩ : ∃ N, (n + m) % 64 = N := ⟨_, rfl⟩
  obtain ⟨mn, hmn⟩ : ∃ mn, many + (m : Int) = mn := ⟨_, rfl⟩
  rw [hu, hfr, hN, hmn] at HF
  rw [hu, hfr, hN, hmn]
  clear hu hfr hN hmn hok hb hs hd hby hdy
  go_enter Try.func27, Try.ntmps27
  go_wp2_with fail
  refine (HO.out _).mono ?_
  rintro e w1 ⟨rfl, h1⟩
  obtain ⟨B1, B2, hE, hz⟩ := box2 w [.int .i64 (h 0), .int .i64 (h 1), .int .i64 (h 2), .int .i64 (h 3), .int .i64 (h 4), .int .i64 (h 5), .int .i64 (h 6), .int .i64 (h 7), .slice r n cap, .int .i64 many] [.int .i64 0, .int .i64 0, .int .i64 0, .int .i64 0, .int .i64 0, .int .i64 0, .int .i64 0, .int .i64 0, .slice none 0 0, .int .i64 0] 39 39 h1
  have c0 := (B1 0 _ rfl).1
  have c1 := (B1 1 _ rfl).1
  have c2 := (B1 2 _ rfl).1
  have c3 := (B1 3 _ rfl).1
  have c4 := (B1 4 _ rfl).1
  have c5 := (B1 5 _ rfl).1
  have c6 := (B1 6 _ rfl).1
  have c7 := (B1 7 _ rfl).1
  have c8 := (B1 8 _ rfl).1
  have c9 := (B1 9 _ rfl).1
  have HE := hide hE
  have HB2 := hide B2
  clear HO h1 B1 B2 hE
  go_wp2_with fail
  refine (HF.out _ HE.out).mono ?_
  rintro e w2 ⟨v, rfl, hO, h2⟩
  obtain ⟨a2, g2, cx2, rfl, hg2, -, -, hB⟩ := owns_seg hO
  have B3 := HB2.out.ext h2 (by omega)
  obtain ⟨z0, y0⟩ := B3 0 _ rfl
  obtain ⟨z1, y1⟩ := B3 1 _ rfl
  obtain ⟨z2, y2⟩ := B3 2 _ rfl
  obtain ⟨z3, y3⟩ := B3 3 _ rfl
  obtain ⟨z4, y4⟩ := B3 4 _ rfl
  obtain ⟨z5, y5⟩ := B3 5 _ rfl
  obtain ⟨z6, y6⟩ := B3 6 _ rfl
  obtain ⟨z7, y7⟩ := B3 7 _ rfl
  obtain ⟨z8, y8⟩ := B3 8 _ rfl
  obtain ⟨z9, y9⟩ := B3 9 _ rfl
  have HB3 := hide B3
  have HE2 := hide (HE.out.trans h2)
  have HBw := hide hB
  have Hg2 : Hid (w.heap.size + 1 < g2) := hide (by omega)
  clear hO h2 B3 hB c0 c1 c2 c3 c4 c5 c6 c7 c8 c9 HE HB2 HF
  go_wp2
  have BR := HB3.out.put [.int .i64 (u 0), .int .i64 (u 1), .int .i64 (u 2), .int .i64 (u 3), .int .i64 (u 4), .int .i64 (u 5), .int .i64 (u 6), .int .i64 (u 7), .slice a2 N cx2, .int .i64 mn] rfl
  have hW := HE2.out.putL (C := w.heap.size + 1) (by omega) [.int .i64 (u 0), .int .i64 (u 1), .int .i64 (u 2), .int .i64 (u 3), .int .i64 (u 4), .int .i64 (u 5), .int .i64 (u 6), .int .i64 (u 7), .slice a2 N cx2, .int .i64 mn]
  have hBo := HBw.out.touch (touch_putL' (w.heap.size + 1) [.int .i64 (u 0), .int .i64 (u 1), .int .i64 (u 2), .int .i64 (u 3), .int .i64 (u 4), .int .i64 (u 5), .int .i64 (u 6), .int .i64 (u 7), .slice a2 N cx2, .int .i64 mn] 0 w2 w2 (Touch.refl _ _)) (fun _ => by have := Hg2.out; omega)
  simp only [putL] at BR hW hBo
  generalize World.setCell _ ⟨w.heap.size + 1, 9, none⟩ _ = WE at *
  have hl := run_load10 _ rfl _ _ (fun j v h => (BR j v h).1)
  refine bodyPost_ret (v := .tuple #[.agg #[.int .i64 (u 0), .int .i64 (u 1), .int .i64 (u 2), .int .i64 (u 3), .int .i64 (u 4), .int .i64 (u 5), .int .i64 (u 6), .int .i64 (u 7), .slice a2 N cx2, .int .i64 mn], .bool true]) ?_ rfl ?_
  · exact results_cell_tmp Try.results27 rfl rfl hl
  · exact ⟨a2, g2, cx2, rfl, by have := Hg2.out; omega, hBo, hW⟩

set_option maxHeartbeats 3200000 in
set_option maxRecDepth 100000 in
theorem specFeed_wrong (h : Nat → Int) (r : Option Addr) (b off n cap : Nat) (f : Nat → Int) (many : Int) (da : Option Addr) (m dcap : Nat) (w : World) (hok : ¬ StrOk h n many) (hs : BSeg w r b off n f) (hn : n ≤ 1048576) :
    Calls Try.prog 27 #[.agg #[.int .i64 (h 0), .int .i64 (h 1), .int .i64 (h 2), .int .i64 (h 3), .int .i64 (h 4), .int .i64 (h 5), .int .i64 (h 6), .int .i64 (h 7), .slice r n cap, .int .i64 many], .slice da m dcap] w fun e w' => GivesSt w h n f many false e w' := by
  have HO := hide (specStreamOk_at h r n cap many false ⟨(fun e => by cases e), fun e => absurd e hok⟩)
  have HL : Hid (∀ w', Ext w w' → Calls Try.prog 66 #[.slice r n cap] w' fun e w'' => GivesR w' n f e w'') := hide (fun w' he => l1Bytes_any r b off n cap f w' (hs.of_all he) (by omega))
  go_enter Try.func27, Try.ntmps27
  go_wp2_with fail
  refine (HO.out _).mono ?_
  rintro e w1 ⟨rfl, h1⟩
  obtain ⟨B1, B2, hE, hz⟩ := box2 w [.int .i64 (h 0), .int .i64 (h 1), .int .i64 (h 2), .int .i64 (h 3), .int .i64 (h 4), .int .i64 (h 5), .int .i64 (h 6), .int .i64 (h 7), .slice r n cap, .int .i64 many] [.int .i64 0, .int .i64 0, .int .i64 0, .int .i64 0, .int .i64 0, .int .i64 0, .int .i64 0, .int .i64 0, .slice none 0 0, .int .i64 0] 39 39 h1
  have c0 := (B1 0 _ rfl).1
  have c1 := (B1 1 _ rfl).1
  have c2 := (B1 2 _ rfl).1
  have c3 := (B1 3 _ rfl).1
  have c4 := (B1 4 _ rfl).1
  have c5 := (B1 5 _ rfl).1
  have c6 := (B1 6 _ rfl).1
  have c7 := (B1 7 _ rfl).1
  have c8 := (B1 8 _ rfl).1
  have c9 := (B1 9 _ rfl).1
  have HE := hide hE
  have HB1 := hide B1
  have HB2 := hide B2
  clear HO h1 B1 B2 hE
  go_wp2_with fail
  refine (HL.out _ HE.out).mono ?_
  rintro e w2 ⟨v, rfl, hO, h2⟩
  obtain ⟨a2, g2, cx2, rfl, hg2, -, -, hB⟩ := owns_seg hO
  clear c0 c1 c2 c3 c4 c5 c6 c7 c8 c9
  have B4 := HB1.out.ext h2 (by omega)
  have B3 := HB2.out.ext h2 (by omega)
  obtain ⟨c0, f0⟩ := B4 0 _ rfl
  obtain ⟨c1, f1⟩ := B4 1 _ rfl
  obtain ⟨c2, f2⟩ := B4 2 _ rfl
  obtain ⟨c3, f3⟩ := B4 3 _ rfl
  obtain ⟨c4, f4⟩ := B4 4 _ rfl
  obtain ⟨c5, f5⟩ := B4 5 _ rfl
  obtain ⟨c6, f6⟩ := B4 6 _ rfl
  obtain ⟨c7, f7⟩ := B4 7 _ rfl
  obtain ⟨c8, f8⟩ := B4 8 _ rfl
  obtain ⟨c9, f9⟩ := B4 9 _ rfl
  obtain ⟨z0, y0⟩ := B3 0 _ rfl
  obtain ⟨z1, y1⟩ := B3 1 _ rfl
  obtain ⟨z2, y2⟩ := B3 2 _ rfl
  obtain ⟨z3, y3⟩ := B3 3 _ rfl
  obtain ⟨z4, y4⟩ := B3 4 _ rfl
  obtain ⟨z5, y5⟩ := B3 5 _ rfl
  obtain ⟨z6, y6⟩ := B3 6 _ rfl
  obtain ⟨z7, y7⟩ := B3 7 _ rfl
  obtain ⟨z8, y8⟩ := B3 8 _ rfl
  obtain ⟨z9, y9⟩ := B3 9 _ rfl
  have HB3 := hide B3
  have HE2 := hide (HE.out.trans h2)
  have HBw := hide hB
  have Hg2 : Hid (w.heap.size + 1 < g2) := hide (by omega)
  clear hO h2 B3 B4 hB HE HB2 HB1 HL
  go_wp2
  have BR := (HB3.out.other' (show w.heap.size + 1 ≠ w.heap.size by omega) 8 (.slice a2 n cx2)).put [.int .i64 (h 0), .int .i64 (h 1), .int .i64 (h 2), .int .i64 (h 3), .int .i64 (h 4), .int .i64 (h 5), .int .i64 (h 6), .int .i64 (h 7), .slice a2 n cx2, .int .i64 many] rfl
  have hW := Ext.putL (Below.setCell (p := ⟨w.heap.size, 8, none⟩) HE2.out (Nat.le_refl _) (.slice a2 n cx2)) (C := w.heap.size + 1) (by omega) [.int .i64 (h 0), .int .i64 (h 1), .int .i64 (h 2), .int .i64 (h 3), .int .i64 (h 4), .int .i64 (h 5), .int .i64 (h 6), .int .i64 (h 7), .slice a2 n cx2, .int .i64 many]
  have hBo := (HBw.out.touch ((Touch.refl w.heap.size w2).set 8 (.slice a2 n cx2)) (fun _ => by have := Hg2.out; omega)).touch (touch_putL' (w.heap.size + 1) [.int .i64 (h 0), .int .i64 (h 1), .int .i64 (h 2), .int .i64 (h 3), .int .i64 (h 4), .int .i64 (h 5), .int .i64 (h 6), .int .i64 (h 7), .slice a2 n cx2, .int .i64 many] 0 _ _ (Touch.refl _ _)) (fun _ => by have := Hg2.out; omega)
  simp only [putL] at BR hW hBo
  generalize World.setCell _ ⟨w.heap.size + 1, 9, none⟩ _ = WE at *
  have hl := run_load10 _ rfl _ _ (fun j v h => (BR j v h).1)
  refine bodyPost_ret (v := .tuple #[.agg #[.int .i64 (h 0), .int .i64 (h 1), .int .i64 (h 2), .int .i64 (h 3), .int .i64 (h 4), .int .i64 (h 5), .int .i64 (h 6), .int .i64 (h 7), .slice a2 n cx2, .int .i64 many], .bool false]) ?_ rfl ?_
  · exact results_cell_tmp Try.results27 rfl rfl hl
  · exact ⟨a2, g2, cx2, rfl, by have := Hg2.out; omega, hBo, hW⟩

set_option maxHeartbeats 3200000 in
set_option maxRecDepth 100000 in
theorem specFeed_long (h : Nat → Int) (r : Option Addr) (b off n cap : Nat) (f : Nat → Int) (many : Int) (da : Option Addr) (m dcap : Nat) (w : World) (hok : StrOk h n many) (hm : 20000 - many < (m : Int)) (hs : BSeg w r b off n f) (hn : n ≤ 1048576) :
    Calls Try.prog 27 #[.agg #[.int .i64 (h 0), .int .i64 (h 1), .int .i64 (h 2), .int .i64 (h 3), .int .i64 (h 4), .int .i64 (h 5), .int .i64 (h 6), .int .i64 (h 7), .slice r n cap, .int .i64 many], .slice da m dcap] w fun e w' => GivesSt w h n f many false e w' := by
  have HO := hide (specStreamOk_at h r n cap many true ⟨fun _ => hok, fun _ => rfl⟩)
  have HL : Hid (∀ w', Ext w w' → Calls Try.prog 66 #[.slice r n cap] w' fun e w'' => GivesR w' n f e w'') := hide (fun w' he => l1Bytes_any r b off n cap f w' (hs.of_all he) (by omega))
  have hb := hok.2
  have hb0 := hb.1
  have hb1 := hb.2.1
  clear hok hb
  go_enter Try.func27, Try.ntmps27
  go_wp2_with fail
  refine (HO.out _).mono ?_
  rintro e w1 ⟨rfl, h1⟩
  obtain ⟨B1, B2, hE, hz⟩ := box2 w [.int .i64 (h 0), .int .i64 (h 1), .int .i64 (h 2), .int .i64 (h 3), .int .i64 (h 4), .int .i64 (h 5), .int .i64 (h 6), .int .i64 (h 7), .slice r n cap, .int .i64 many] [.int .i64 0, .int .i64 0, .int .i64 0, .int .i64 0, .int .i64 0, .int .i64 0, .int .i64 0, .int .i64 0, .slice none 0 0, .int .i64 0] 39 39 h1
  have c0 := (B1 0 _ rfl).1
  have c1 := (B1 1 _ rfl).1
  have c2 := (B1 2 _ rfl).1
  have c3 := (B1 3 _ rfl).1
  have c4 := (B1 4 _ rfl).1
  have c5 := (B1 5 _ rfl).1
  have c6 := (B1 6 _ rfl).1
  have c7 := (B1 7 _ rfl).1
  have c8 := (B1 8 _ rfl).1
  have c9 := (B1 9 _ rfl).1
  have HE := hide hE
  have HB1 := hide B1
  have HB2 := hide B2
  clear HO h1 B1 B2 hE
  go_wp2_with fail
  refine (HL.out _ HE.out).mono ?_
  rintro e w2 ⟨v, rfl, hO, h2⟩
  obtain ⟨a2, g2, cx2, rfl, hg2, -, -, hB⟩ := owns_seg hO
  clear c0 c1 c2 c3 c4 c5 c6 c7 c8 c9
  have B4 := HB1.out.ext h2 (by omega)
  have B3 := HB2.out.ext h2 (by omega)
  obtain ⟨c0, f0⟩ := B4 0 _ rfl
  obtain ⟨c1, f1⟩ := B4 1 _ rfl
  obtain ⟨c2, f2⟩ := B4 2 _ rfl
  obtain ⟨c3, f3⟩ := B4 3 _ rfl
  obtain ⟨c4, f4⟩ := B4 4 _ rfl
  obtain ⟨c5, f5⟩ := B4 5 _ rfl
  obtain ⟨c6, f6⟩ := B4 6 _ rfl
  obtain ⟨c7, f7⟩ := B4 7 _ rfl
  obtain ⟨c8, f8⟩ := B4 8 _ rfl
  obtain ⟨c9, f9⟩ := B4 9 _ rfl
  obtain ⟨z0, y0⟩ := B3 0 _ rfl
  obtain ⟨z1, y1⟩ := B3 1 _ rfl
  obtain ⟨z2, y2⟩ := B3 2 _ rfl
  obtain ⟨z3, y3⟩ := B3 3 _ rfl
  obtain ⟨z4, y4⟩ := B3 4 _ rfl
  obtain ⟨z5, y5⟩ := B3 5 _ rfl
  obtain ⟨z6, y6⟩ := B3 6 _ rfl
  obtain ⟨z7, y7⟩ := B3 7 _ rfl
  obtain ⟨z8, y8⟩ := B3 8 _ rfl
  obtain ⟨z9, y9⟩ := B3 9 _ rfl
  have HB3 := hide B3
  have HE2 := hide (HE.out.trans h2)
  have HBw := hide hB
  have Hg2 : Hid (w.heap.size + 1 < g2) := hide (by omega)
  clear hO h2 B3 B4 hB HE HB2 HB1 HL
  go_wp2
  have BR := (HB3.out.other' (show w.heap.size + 1 ≠ w.heap.size by omega) 8 (.slice a2 n cx2)).put [.int .i64 (h 0), .int .i64 (h 1), .int .i64 (h 2), .int .i64 (h 3), .int .i64 (h 4), .int .i64 (h 5), .int .i64 (h 6), .int .i64 (h 7), .slice a2 n cx2, .int .i64 many] rfl
  have hW := Ext.putL (Below.setCell (p := ⟨w.heap.size, 8, none⟩) HE2.out (Nat.le_refl _) (.slice a2 n cx2)) (C := w.heap.size + 1) (by omega) [.int .i64 (h 0), .int .i64 (h 1), .int .i64 (h 2), .int .i64 (h 3), .int .i64 (h 4), .int .i64 (h 5), .int .i64 (h 6), .int .i64 (h 7), .slice a2 n cx2, .int .i64 many]
  have hBo := (HBw.out.touch ((Touch.refl w.heap.size w2).set 8 (.slice a2 n cx2)) (fun _ => by have := Hg2.out; omega)).touch (touch_putL' (w.heap.size + 1) [.int .i64 (h 0), .int .i64 (h 1), .int .i64 (h 2), .int .i64 (h 3), .int .i64 (h 4), .int .i64 (h 5), .int .i64 (h 6), .int .i64 (h 7), .slice a2 n cx2, .int .i64 many] 0 _ _ (Touch.refl _ _)) (fun _ => by have := Hg2.out; omega)
  simp only [putL] at BR hW hBo
  generalize World.setCell _ ⟨w.heap.size + 1, 9, none⟩ _ = WE at *
  have hl := run_load10 _ rfl _ _ (fun j v h => (BR j v h).1)
  refine bodyPost_ret (v := .tuple #[.agg #[.int .i64 (h 0), .int .i64 (h 1), .int .i64 (h 2), .int .i64 (h 3), .int .i64 (h 4), .int .i64 (h 5), .int .i64 (h 6), .int .i64 (h 7), .slice a2 n cx2, .int .i64 many], .bool false]) ?_ rfl ?_
  · exact results_cell_tmp Try.results27 rfl rfl hl
  · exact ⟨a2, g2, cx2, rfl, by have := Hg2.out; omega, hBo, hW⟩

theorem feed_at (h : Nat → Int) (n : Nat) (f : Nat → Int) (many : Int) (m : Nat) (fd : Nat → Int) (hn : n ≤ 1048576) (hmm : m ≤ 1048576) (hby : ∀ i, i < n → 0 ≤ f i ∧ f i < 256) (hdy : ∀ i, i < m → 0 ≤ fd i ∧ fd i < 256) :
    ∃ (u : Nat → Int) (N : Nat) (F : Nat → Int) (mn : Int) (ok : Bool), N ≤ 1048576 ∧
      (∀ (r : Option Addr) (b off cap : Nat) (da : Option Addr) (db doff dcap : Nat) (w : World), BSeg w r b off n f → BSeg w da db doff m fd → Calls Try.prog 29 #[.agg #[.int .i64 (h 0), .int .i64 (h 1), .int .i64 (h 2), .int .i64 (h 3), .int .i64 (h 4), .int .i64 (h 5), .int .i64 (h 6), .int .i64 (h 7), .slice r n cap, .int .i64 many], .slice da m dcap] w fun e w' => GivesSt w u N F mn ok e w') ∧
      (∀ (r : Option Addr) (b off cap : Nat) (da : Option Addr) (db doff dcap : Nat) (w : World), BSeg w r b off n f → BSeg w da db doff m fd → Calls Try.prog 27 #[.agg #[.int .i64 (h 0), .int .i64 (h 1), .int .i64 (h 2), .int .i64 (h 3), .int .i64 (h 4), .int .i64 (h 5), .int .i64 (h 6), .int .i64 (h 7), .slice r n cap, .int .i64 many], .slice da m dcap] w fun e w' => GivesSt w u N F mn ok e w') := by
  by_cases hok : StrOk h n many
  · by_cases hm : (m : Int) ≤ 20000 - many
    · refine ⟨_, _, _, _, true, ?_, fun r b off cap da db doff dcap w hs hd => ?_, fun r b off cap da db doff dcap w hs hd => specFeed_yes h r b off n cap f many da db doff m dcap fd w hok hm hs hd hby hdy⟩
      · have := Nat.mod_lt (n + m) (show 64 > 0 by omega); omega
      · refine (feed_yes h r b off n cap f many da db doff m dcap fd w hok hm hs hd hby hdy).mono ?_
        rintro e w' ⟨v, rfl, hO, hE⟩
        obtain ⟨a2, g2, cx2, rfl, hg2, -, -, hB⟩ := owns_seg hO
        have h8 : ∀ i, i < 8 → 0 ≤ h i ∧ h i < 4294967296 := fun i hi => by have := hok.1 i hi; omega
        refine ⟨a2, g2, cx2, ?_, hg2, hB, hE⟩
        rw [blocks_mod h (catF f n fd) ((n + m) / 64) h8 0 (by omega), blocks_mod h (catF f n fd) ((n + m) / 64) h8 1 (by omega), blocks_mod h (catF f n fd) ((n + m) / 64) h8 2 (by omega), blocks_mod h (catF f n fd) ((n + m) / 64) h8 3 (by omega), blocks_mod h (catF f n fd) ((n + m) / 64) h8 4 (by omega), blocks_mod h (catF f n fd) ((n + m) / 64) h8 5 (by omega), blocks_mod h (catF f n fd) ((n + m) / 64) h8 6 (by omega), blocks_mod h (catF f n fd) ((n + m) / 64) h8 7 (by omega)]
    · refine ⟨h, n, f, many, false, hn, fun r b off cap da db doff dcap w hs hd => ?_, fun r b off cap da db doff dcap w hs hd => specFeed_long h r b off n cap f many da m dcap w hok (by omega) hs hn⟩
      refine (feed_long h r b off n cap f many da db doff m dcap fd w hok (by omega) hs hd hn hmm).mono ?_
      rintro e w' ⟨v, rfl, hO, hE⟩
      obtain ⟨a2, g2, cx2, rfl, hg2, -, -, hB⟩ := owns_seg hO
      exact ⟨a2, g2, cx2, rfl, hg2, hB, hE⟩
  · refine ⟨h, n, f, many, false, hn, fun r b off cap da db doff dcap w hs hd => ?_, fun r b off cap da db doff dcap w hs hd => specFeed_wrong h r b off n cap f many da m dcap w hok hs hn⟩
    refine (feed_wrong h r b off n cap f many da db doff m dcap fd w hok hs hd hn hmm).mono ?_
    rintro e w' ⟨v, rfl, hO, hE⟩
    obtain ⟨a2, g2, cx2, rfl, hg2, -, -, hB⟩ := owns_seg hO
    exact ⟨a2, g2, cx2, rfl, hg2, hB, hE⟩

end Go.Proofs.Ythgdempjpndhgaa
