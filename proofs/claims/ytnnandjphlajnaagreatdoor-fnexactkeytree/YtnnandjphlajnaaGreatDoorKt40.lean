/- Walks: the program's key as a piece. -/
import Derived.Test.YtnnandjphlajnaaGreatDoorKt34
import Derived.Test.YtnnandjphlajnaaGreatDoorKt39
namespace Go.Proofs.YtnnandjphlajnaaGreatDoor

section
set_option linter.unusedVariables false
set_option linter.unusedSimpArgs false

open Go.RowKit

theorem Pce.form {B E : Nat} {W : World} {v : Value} {L : List It} (h : Pce B E W v L) : ∃ T tag a n cap, v = .iface T (.agg #[.int .i64 tag, .slice a n cap]) := by
  obtain ⟨tg, aa, nn, cc, h | h⟩ := h.its W (Agr.refl _ _ _)
  · exact ⟨_, tg, aa, nn, cc, h.1⟩
  · exact ⟨_, tg, aa, nn, cc, h.1⟩

/-- A call that hands back bytes. -/
def GivesBz (w : World) (m : Nat) (F : Nat → Int) (e : Ending) (w' : World) : Prop := ∃ a g cap, e = .returned (.slice a m cap) ∧ BSeg w' a g 0 m F ∧ Ext w w'

theorem GivesBb.z {w w' : World} {m : Nat} {F : Nat → Int} {e : Ending} (h : GivesBb w m F e w') : GivesBz w m F e w' := by
  obtain ⟨g, rfl, hg, hl, hE⟩ := h
  refine ⟨_, g, m, rfl, ⟨fun _ => rfl, fun i hi => ?_⟩, hE⟩
  unfold Lies at hl
  simp only [World.cell?, hl]
  simp [byts, hi]

set_option maxHeartbeats 3200000 in
set_option maxRecDepth 100000 in
theorem keyPiece_rsa (k : Ky) (ad : Option Addr) (b off cap : Nat) (w : World) (hs : Seg w ad b off k.n k.f) (h1 : k.kind = 1) (hok : natOk k.n k.f = true) (hb : bitsOf k.n k.f ≤ 512) (he : 0 ≤ k.e ∧ k.e ≤ 65537) :
    Calls Tryz.prog 45 #[.agg #[.int .i64 k.kind, .slice ad k.n cap, .int .i64 k.e, .int .i64 k.cP, .int .i64 k.cA, .int .i64 k.cB, .int .i64 k.cN, .int .i64 k.cX, .int .i64 k.cY, .int .i64 k.q.x, .int .i64 k.q.y, .bool k.q.far, .int .i64 k.dP, .int .i64 k.dD, .int .i64 k.dL, .int .i64 k.dX, .int .i64 k.dY, .int .i64 k.a.x, .int .i64 k.a.y]] w fun e w' => GivesPc w (rsaC k) e w' := by
  obtain ⟨V, hV⟩ : ∃ V, w.alloc (.cells #[.int .i64 k.kind, .slice ad k.n cap, .int .i64 k.e, .int .i64 k.cP, .int .i64 k.cA, .int .i64 k.cB, .int .i64 k.cN, .int .i64 k.cX, .int .i64 k.cY, .int .i64 k.q.x, .int .i64 k.q.y, .bool k.q.far, .int .i64 k.dP, .int .i64 k.dD, .int .i64 k.dL, .int .i64 k.dX, .int .i64 k.dY, .int .i64 k.a.x, .int .i64 k.a.y] 42) = V := ⟨_, rfl⟩
  obtain ⟨B0, hE, hsz⟩ := box1 w [.int .i64 k.kind, .slice ad k.n cap, .int .i64 k.e, .int .i64 k.cP, .int .i64 k.cA, .int .i64 k.cB, .int .i64 k.cN, .int .i64 k.cX, .int .i64 k.cY, .int .i64 k.q.x, .int .i64 k.q.y, .bool k.q.far, .int .i64 k.dP, .int .i64 k.dD, .int .i64 k.dL, .int .i64 k.dX, .int .i64 k.dY, .int .i64 k.a.x, .int .i64 k.a.y] 42 (w1 := V) (by rw [hV]; exact Ext.refl _)
  have HA := hide B0
  have HE := hide hE
  have c0 := (B0 0 _ rfl).1
  have c1 := (B0 1 _ rfl).1
  have c2 := (B0 2 _ rfl).1
  have hwV : w.heap.size < V.heap.size := World.block_lt_of_cell? _ _ c0
  have g1 : (k.kind == 1) = true := by simp [h1]
  have HI1 : Hid (∀ W, Calls Tryz.prog 101 #[.int .i64 1] W fun e w' => GivesPc W [intC 1] e w') := fun W => intPiece_any 1 W (by omega) (by omega)
  have HIe : Hid (∀ W, Calls Tryz.prog 101 #[.int .i64 k.e] W fun e w' => GivesPc W [intC k.e] e w') := fun W => intPiece_any k.e W (by omega) (by omega)
  have HIn : Hid (∀ W, Ext w W → Calls Tryz.prog 102 #[.slice ad k.n cap] W fun e w' => GivesPc W [natC k.n k.f] e w') := fun W h => natPiece_any ad b off k.n cap k.f W (hs.of_all h) hok hb
  have HR : Hid (rsaC k = ⟨48, 3, []⟩ :: ([intC 1] ++ ([natC k.n k.f] ++ [intC k.e]))) := rfl
  generalize rsaC k = C at *
  have HN1 : Hid (1 = [intC 1].length) := rfl
  have HN2 : Hid (1 = [natC k.n k.f].length) := rfl
  have HN3 : Hid (1 = [intC k.e].length) := rfl
  generalize [intC 1] = C1 at *
  generalize [natC k.n k.f] = C2 at *
  generalize [intC k.e] = C3 at *
  clear hs hok hb he B0 hE h1
  have c0' := fun p : ReC (fun q => V.heap.size ≤ q) V => cell_reC c0 (by show ¬ V.heap.size ≤ w.heap.size; omega) p
  have c1' := fun p : ReC (fun q => V.heap.size ≤ q) V => cell_reC c1 (by show ¬ V.heap.size ≤ w.heap.size; omega) p
  have c2' := fun p : ReC (fun q => V.heap.size ≤ q) V => cell_reC c2 (by show ¬ V.heap.size ≤ w.heap.size; omega) p
  go_enter Tryz.func45, Tryz.ntmps45
  go_wp2_with fail
  refine anyK_begin (fun q => V.heap.size ≤ q) 10 rfl (by kernel_rfl) ?_
  refine anyK_take 1 2 8 rfl (by decide) (by kernel_rfl) (fun _ _ d _ _ h => by cases d <;> exact h) ?_
  repeat (refine headC_step (fun K hK => ?_); go_simp; first | (refine hK _ ?_; clear hK K) | (apply Exists.intro; refine ⟨fun p => ?_, hK _ ?_⟩; (fail); clear hK K))
  refine headC_nil ?_
  refine anyK_take 4 2 6 rfl (by decide) (by kernel_rfl) (fun _ _ d _ _ h => by cases d <;> exact h) ?_
  repeat (refine headC_step (fun K hK => ?_); go_simp; first | (refine hK _ ?_; clear hK K) | (apply Exists.intro; refine ⟨fun p => ?_, hK _ ?_⟩; (fail); clear hK K))
  refine headC_nil ?_
  have XV : Hid (Ext V V) := Ext.refl _
  have hwV2 : w.heap.size ≤ V.heap.size := by omega
  clear c0' c1' c2' c0 c1 c2
  refine anyK_one 0 (by kernel_rfl) ?_
  refine stepK_run rfl ?_
  intro w1 hw1 K2 hK2
  have Xw1 : Hid (Ext V w1) := hide (XV.out.trans hw1)
  go_simp
  refine (HI1.out w1).mono ?_
  rintro r1 w2 ⟨v1, L1, rfl, hL1, hC1, hE1⟩
  obtain ⟨T1, t1, a1, n1, c1, rfl⟩ := hL1.form
  have HL1 := hide hL1
  have HC1 := hide hC1
  have HE1 := hide hE1
  have Xw2 : Hid (Ext V w2) := hide (Xw1.out.trans hE1)
  refine hK2 _ _ (.of_ext Xw2.out) ?_
  clear hK2 K2 hL1 hC1 hE1
  refine anyK_one 3 (by kernel_rfl) ?_
  refine stepK_run rfl ?_
  intro w3 hw3 K2 hK2
  have Xw3 : Hid (Ext V w3) := hide (Xw2.out.trans hw3)
  go_simp
  refine (HIn.out w3 (HE.out.trans Xw3.out)).mono ?_
  rintro r2 w4 ⟨v2, L2, rfl, hL2, hC2, hE2⟩
  obtain ⟨T2, t2, a2, n2, c2, rfl⟩ := hL2.form
  have HL2 := hide hL2
  have HC2 := hide hC2
  have HE2 := hide hE2
  have Xw4 : Hid (Ext V w4) := hide (Xw3.out.trans hE2)
  refine hK2 _ _ (.of_ext Xw4.out) ?_
  clear hK2 K2 hL2 hC2 hE2
  refine anyK_one 6 (by kernel_rfl) ?_
  refine stepK_run rfl ?_
  intro w5 hw5 K2 hK2
  have Xw5 : Hid (Ext V w5) := hide (Xw4.out.trans hw5)
  go_simp
  refine (HIe.out w5).mono ?_
  rintro r4 w6 ⟨v4, L4, rfl, hL4, hC4, hE4⟩
  obtain ⟨T4, t4, a4, n4, c4, rfl⟩ := hL4.form
  have HL4 := hide hL4
  have HC4 := hide hC4
  have HE4 := hide hE4
  have Xw6 : Hid (Ext V w6) := hide (Xw5.out.trans hE4)
  refine hK2 _ _ (.of_ext Xw6.out) ?_
  clear hK2 K2 hL4 hC4 hE4
  refine anyK_one 7 (by kernel_rfl) ?_
  refine stepK_run rfl ?_
  intro w7 hw7 K2 hK2
  have Xw7 : Hid (Ext V w7) := hide (Xw6.out.trans hw7)
  go_simp
  have S1 : Pcs V.heap.size w2.heap.size w2 [(Value.iface T1 (.agg #[.int .i64 t1, .slice a1 n1 c1]), L1)] := (HL1.out.wide (Below.size Xw1.out) (Nat.le_refl _) (Nat.le_refl _)).one
  have e24 := hw3.trans HE2.out
  have S2 := S1.add (.of_ext e24 (Nat.le_refl _)) (Below.size e24) (HL2.out.wide (Below.size hw3) (Nat.le_refl _) (Nat.le_refl _)) (Below.size Xw2.out) (Below.size e24)
  have e46 := hw5.trans HE4.out
  have S3 := S2.add (.of_ext e46 (Nat.le_refl _)) (Below.size e46) (HL4.out.wide (Below.size hw5) (Nat.le_refl _) (Nat.le_refl _)) (Below.size Xw4.out) (Below.size e46)
  have HS := hide (S3.ext (hw7.trans (Ext.alloc w7 (.cells #[Value.iface T1 (.agg #[.int .i64 t1, .slice a1 n1 c1]), Value.iface T2 (.agg #[.int .i64 t2, .slice a2 n2 c2]), Value.iface T4 (.agg #[.int .i64 t4, .slice a4 n4 c4])] 83))))
  have HW := hide (World.ownsRow_lit (e := 83) (size := 1) (base := V.heap.size) w7 #[Value.iface T1 (.agg #[.int .i64 t1, .slice a1 n1 c1]), Value.iface T2 (.agg #[.int .i64 t2, .slice a2 n2 c2]), Value.iface T4 (.agg #[.int .i64 t4, .slice a4 n4 c4])] 3 (Below.size Xw7.out) (by decide) rfl)
  have Xw8 : Hid (Ext V (w7.alloc (.cells #[Value.iface T1 (.agg #[.int .i64 t1, .slice a1 n1 c1]), Value.iface T2 (.agg #[.int .i64 t2, .slice a2 n2 c2]), Value.iface T4 (.agg #[.int .i64 t4, .slice a4 n4 c4])] 83))) := hide (Xw7.out.trans (Ext.alloc _ _))
  refine hK2 _ _ (.of_ext Xw8.out) ?_
  clear hK2 K2 S1 S2 S3 e24 e46
  generalize w7.alloc (.cells #[Value.iface T1 (.agg #[.int .i64 t1, .slice a1 n1 c1]), Value.iface T2 (.agg #[.int .i64 t2, .slice a2 n2 c2]), Value.iface T4 (.agg #[.int .i64 t4, .slice a4 n4 c4])] 83) = w8 at *
  generalize w7.heap.size = R at *
  refine anyK_one 8 (by kernel_rfl) ?_
  refine stepK_run rfl ?_
  intro w9 hw9 K2 hK2
  have Xw9 : Hid (Ext V w9) := hide (Xw8.out.trans hw9)
  have HK := hide (Pce.knot 48 (HS.out.ext hw9) (ownsRow_ext HW.out hw9) (by
    have h1 := map_len HC1.out; have h2 := map_len HC2.out; have h4 := map_len HC4.out
    rw [← HN1.out] at h1
    rw [← HN2.out] at h2
    rw [← HN3.out] at h4
    simp [h1, h2, h4]) (by simp))
  go_simp
  refine (listPiece_any _ 3 3 w9).mono ?_
  rintro r9 w10 ⟨rfl, hw10⟩
  obtain rfl := hw10.symm
  refine hK2 _ _ (.of_ext Xw9.out) ?_
  clear hK2 K2
  refine anyK_take 9 1 0 rfl (by decide) (by kernel_rfl) (fun _ _ d _ _ h => by cases d <;> exact h) ?_
  repeat (refine headC_step (fun K hK => ?_); go_simp; first | (refine hK _ ?_; clear hK K) | (apply Exists.intro; refine ⟨fun p => ?_, hK _ ?_⟩; (fail); clear hK K))
  refine headC_nil ?_
  refine anyK_done (by kernel_rfl) ?_ 0
  intro w13 hw13
  have HK2 := hide (HK.out.ext hw13)
  have X13 := hide (HE.out.trans (Xw9.out.trans hw13))
  go_wp2
  go_ret
  exact ⟨_, _, rfl, HK2.out.wide hwV2 (Below.size hw13) (Nat.le_refl _), by rw [List.map_cons, ct_bare, HR.out, ← HC1.out, ← HC2.out, ← HC4.out]; simp, X13.out⟩
end

end Go.Proofs.YtnnandjphlajnaaGreatDoor
