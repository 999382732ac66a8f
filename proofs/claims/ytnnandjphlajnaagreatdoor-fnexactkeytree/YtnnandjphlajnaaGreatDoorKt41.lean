/- Walks: the program's key as a piece, of a curve. Walks: the program's key as a piece, of a twisted curve. Walks: a root that is wanted, of the program. -/
import Derived.Test.YtnnandjphlajnaaGreatDoorKt34
import Derived.Test.YtnnandjphlajnaaGreatDoorKt39
import Derived.Test.YtnnandjphlajnaaGreatDoorKt40
import Derived.Test.YtnnandjphlajnaaGreatDoorKt02
import Derived.Test.YtnnandjphlajnaaGreatDoorKt11
import Derived.Test.YtnnandjphlajnaaGreatDoorKt24
namespace Go.Proofs.YtnnandjphlajnaaGreatDoor

section
set_option linter.unusedVariables false
set_option linter.unusedSimpArgs false

open Go.RowKit

set_option maxHeartbeats 3200000 in
set_option maxRecDepth 100000 in
theorem keyPiece_cv (k : Ky) (ad : Option Addr) (b off cap : Nat) (w : World) (g1 : (k.kind == 1) = false) (g2 : (k.kind == 2) = true)
    (HP : Hid (∀ W, Calls Tryz.prog 104 #[.agg #[.int .i64 k.q.x, .int .i64 k.q.y, .bool k.q.far], .bool false] W fun e w' => GivesBz W 7 (ptByte k.q false) e w')) (hf : ∀ z ∈ [2, k.cP, k.cA, k.cB, k.cN, k.cX, k.cY], -9223372036854775808 ≤ z ∧ z ≤ 9223372036854775807) :
    Calls Tryz.prog 45 #[.agg #[.int .i64 k.kind, .slice ad k.n cap, .int .i64 k.e, .int .i64 k.cP, .int .i64 k.cA, .int .i64 k.cB, .int .i64 k.cN, .int .i64 k.cX, .int .i64 k.cY, .int .i64 k.q.x, .int .i64 k.q.y, .bool k.q.far, .int .i64 k.dP, .int .i64 k.dD, .int .i64 k.dL, .int .i64 k.dX, .int .i64 k.dY, .int .i64 k.a.x, .int .i64 k.a.y]] w fun e w' => GivesPc w (cvC k) e w' := by
  obtain ⟨V, hV⟩ : ∃ V, w.alloc (.cells #[.int .i64 k.kind, .slice ad k.n cap, .int .i64 k.e, .int .i64 k.cP, .int .i64 k.cA, .int .i64 k.cB, .int .i64 k.cN, .int .i64 k.cX, .int .i64 k.cY, .int .i64 k.q.x, .int .i64 k.q.y, .bool k.q.far, .int .i64 k.dP, .int .i64 k.dD, .int .i64 k.dL, .int .i64 k.dX, .int .i64 k.dY, .int .i64 k.a.x, .int .i64 k.a.y] 42) = V := ⟨_, rfl⟩
  obtain ⟨B0, hE, hsz⟩ := box1 w [.int .i64 k.kind, .slice ad k.n cap, .int .i64 k.e, .int .i64 k.cP, .int .i64 k.cA, .int .i64 k.cB, .int .i64 k.cN, .int .i64 k.cX, .int .i64 k.cY, .int .i64 k.q.x, .int .i64 k.q.y, .bool k.q.far, .int .i64 k.dP, .int .i64 k.dD, .int .i64 k.dL, .int .i64 k.dX, .int .i64 k.dY, .int .i64 k.a.x, .int .i64 k.a.y] 42 (w1 := V) (by rw [hV]; exact Ext.refl _)
  have HA := hide B0
  have HE := hide hE
  have c0 := (B0 0 _ rfl).1
  have c3 := (B0 3 _ rfl).1
  have c4 := (B0 4 _ rfl).1
  have c5 := (B0 5 _ rfl).1
  have c6 := (B0 6 _ rfl).1
  have c7 := (B0 7 _ rfl).1
  have c8 := (B0 8 _ rfl).1
  have hwV : w.heap.size < V.heap.size := World.block_lt_of_cell? _ _ c0
  have hwV2 : w.heap.size ≤ V.heap.size := by omega
  have HI : Hid (∀ (S : Nat) (W : World), Seg W (some ⟨S, 0, none⟩) S 0 7 (fun i => ([2, k.cP, k.cA, k.cB, k.cN, k.cX, k.cY] : List Int).getD i 0) → Calls Tryz.prog 103 #[.slice (some ⟨S, 0, none⟩) 7 7] W fun e w' => GivesPs W ([[intC 2], [intC k.cP], [intC k.cA], [intC k.cB], [intC k.cN], [intC k.cX], [intC k.cY]] : List (List Ic)) e w') := fun S W h => intPieces_any (some ⟨S, 0, none⟩) S 0 7 7 _ W h (by omega) (fun i hi => hf _ (by
    rw [List.getD_eq_getElem?_getD, List.getElem?_eq_getElem (by simpa using hi)]
    exact List.getElem_mem _))
  have HR : Hid (cvC k = ⟨48, 8, []⟩ :: (([[intC 2], [intC k.cP], [intC k.cA], [intC k.cB], [intC k.cN], [intC k.cX], [intC k.cY]] : List (List Ic)).flatMap (fun x => x) ++ [⟨3, 0, 0 :: (List.range 7).map (ptByte k.q false)⟩])) := rfl
  generalize cvC k = C at *
  have HN : Hid (7 = ([[intC 2], [intC k.cP], [intC k.cA], [intC k.cB], [intC k.cN], [intC k.cX], [intC k.cY]] : List (List Ic)).length ∧ ([[intC 2], [intC k.cP], [intC k.cA], [intC k.cB], [intC k.cN], [intC k.cX], [intC k.cY]] : List (List Ic)).flatMap (fun x => x) = ([[intC 2], [intC k.cP], [intC k.cA], [intC k.cB], [intC k.cN], [intC k.cX], [intC k.cY]] : List (List Ic)).flatMap (fun x => x) ∧ (([[intC 2], [intC k.cP], [intC k.cA], [intC k.cB], [intC k.cN], [intC k.cX], [intC k.cY]] : List (List Ic)).flatMap (fun x => x)).length = 7) := ⟨rfl, rfl, rfl⟩
  generalize ([[intC 2], [intC k.cP], [intC k.cA], [intC k.cB], [intC k.cN], [intC k.cX], [intC k.cY]] : List (List Ic)) = CI at *
  generalize ptByte k.q false = F at *
  clear hf hE B0
  go_enter Tryz.func45, Tryz.ntmps45
  go_wp2_with fail
  refine (HI.out V.heap.size _ (seg_lit _ _ rfl [2, k.cP, k.cA, k.cB, k.cN, k.cX, k.cY] _ rfl)).mono ?_
  rintro e2 w2 ⟨q2, P, rfl, h2r, h2p, h2c, h2E⟩
  have H2r := hide h2r
  have H2p := hide h2p
  have H2c := hide h2c
  have H2E := hide h2E
  have X1 : Hid (Ext V w2) := hide (Ext.trans (Ext.alloc V _) h2E)
  have d9 := ((Blk.ext HA.out X1.out hwV) 9 _ rfl).1
  have d10 := ((Blk.ext HA.out X1.out hwV) 10 _ rfl).1
  have d11 := ((Blk.ext HA.out X1.out hwV) 11 _ rfl).1
  clear h2r h2p h2c h2E c3 c4 c5 c6 c7 c8
  have hPl : P.length = 7 := by rw [map_len H2c.out]; exact HN.out.1.symm
  rw [World.size_alloc] at H2r H2p ⊢
  have HPl := hide hPl
  obtain ⟨N, hN⟩ : ∃ N, P.length = N := ⟨_, rfl⟩
  rw [hN] at H2r ⊢
  have HN2 := hide hN
  clear hN hPl
  go_wp2_with fail
  refine (HP.out _).mono ?_
  rintro e3 w3 ⟨ya, yg, yc, rfl, hyB, hyE⟩
  have HY := hide hyE
  have HBt := hide (bitsPiece_any ya yg 0 7 yc F w3 hyB (by omega))
  clear hyB hyE
  go_wp2_with fail
  refine HBt.out.mono ?_
  rintro e4 w4 ⟨v4, L4, rfl, h4, h4c, h4E⟩
  obtain ⟨T4, t4, a4, n4, c4, rfl⟩ := h4.form
  have H4 := hide h4
  have H4c := hide h4c
  have H4E := hide h4E
  clear h4 h4c h4E
  go_wp2_with (at_builtin; refine stop_app rfl ?_)
  refine hide ?_
  have X24 : Hid (Ext w2 w4) := hide (Ext.trans HY.out H4E.out)
  have hsV := Below.size X1.out
  have hs4 := Below.size X24.out
  refine wpList_appP rfl _ _ rfl (V.heap.size + 1) _ N (P.map (·.1)) rfl (ownsRow_ext H2r.out (X24.out.trans (Ext.alloc _ _))) w4.heap.size (Value.iface T4 (.agg #[.int .i64 t4, .slice a4 n4 c4])) rfl (World.cell?_alloc_new _ _ _ _) rfl (by have := HPl.out; have := HN2.out; omega) (by have := (H2r.out.lt _ rfl).2; simp; omega) ?_
  intro v5 w5 h5 hg5
  obtain ⟨a5, c5, rfl⟩ := ownsRow_slc h5
  have hR2 : V.heap.size + 1 < w2.heap.size := (H2r.out.lt _ rfl).2
  have hag : Agr (V.heap.size + 1 + 1) w4.heap.size w4 w5 := fun k k1 k2 => (hg5.block k (by simp; omega) (by simp [Act.eval, Value.ownBlock]; omega)).trans (Below.heap_alloc _ _ _ k2)
  have hsz5 : w4.heap.size ≤ w5.heap.size := by have := hg5.size; simp at this; omega
  have S2 := (H2p.out.ext X24.out).keep (hag.sub (Nat.le_refl _) hs4) hsz5
  have S4 := ((H4.out.keep (hag.sub (by have := Below.size HY.out; omega) (Nat.le_refl _)) hsz5)).one
  have S5 := S2.cat S4 (by have := Below.size HY.out; omega) (Below.size HY.out) hs4
  have X5 : Hid (Ext V w5) := hide (Below.trans (X1.out.trans (X24.out.trans (Ext.alloc _ _))) ((Below.refl _ _).grown hg5 (by simp; omega) (fun j hj => by
    have e2 : V.heap.size + 1 = j := by simpa [Act.eval, Value.ownBlock] using hj
    omega)))
  have hml : (P ++ [(Value.iface T4 (.agg #[.int .i64 t4, .slice a4 n4 c4]), L4)]).map (·.1) = P.map (·.1) ++ [Value.iface T4 (.agg #[.int .i64 t4, .slice a4 n4 c4])] := by simp
  have HK := hide (Pce.knot (B := V.heap.size + 1) (a := a5) (n := N + 1) (cap := c5) 48 (S5.wide (B' := V.heap.size + 1) (E' := w4.heap.size) (by omega) (Nat.le_refl _) hsz5) (by rw [hml, List.length_append, HN2.out]; exact h5) (by
    have e1 : ((P ++ [(Value.iface T4 (.agg #[.int .i64 t4, .slice a4 n4 c4]), L4)]).flatMap (·.2)).length = 7 + 1 := by
      have h0 : (P.flatMap (·.2)).map ct = CI.flatMap (fun x => x) := by rw [← H2c.out, List.map_flatMap, List.flatMap_map]
      have h1 := map_len h0
      have h2 := map_len H4c.out
      rw [HN.out.2.2] at h1
      have h3 : L4.length = 1 := by simpa using h2
      simp [List.flatMap_append, h1, h3]
    rw [e1]
    omega) (by rw [List.length_append, HPl.out]; simp))
  clear hg5 h5 S2 S4 S5 hml hag
  obtain ⟨N1, hN1⟩ : ∃ N1, N + 1 = N1 := ⟨_, rfl⟩
  rw [hN1] at HK ⊢
  clear hN1
  go_wp2_with fail
  refine (listPiece_any _ _ _ w5).mono ?_
  rintro e7 w7 ⟨rfl, hw7⟩
  obtain rfl := hw7.symm
  go_wp2
  go_ret
  exact ⟨_, _, rfl, HK.out.wide (by omega) (Nat.le_refl _) (Nat.le_refl _), by
    rw [List.map_cons, ct_bare, HR.out, ← H4c.out, ← H2c.out, List.length_append, HPl.out]
    simp [List.map_flatMap, List.flatMap_map], HE.out.trans X5.out⟩
end

section
set_option linter.unusedVariables false
set_option linter.unusedSimpArgs false

open Go.RowKit

set_option maxHeartbeats 3200000 in
set_option maxRecDepth 100000 in
theorem keyPiece_ed (k : Ky) (ad : Option Addr) (b off cap : Nat) (w : World) (g1 : (k.kind == 1) = false) (g2 : (k.kind == 2) = false)
    (HP : Hid (∀ W, Calls Tryz.prog 105 #[.agg #[.int .i64 k.a.x, .int .i64 k.a.y]] W fun e w' => GivesBz W 3 (prByte k.a) e w')) (hf : ∀ z ∈ [3, k.dP, k.dD, k.dL, k.dX, k.dY], -9223372036854775808 ≤ z ∧ z ≤ 9223372036854775807) :
    Calls Tryz.prog 45 #[.agg #[.int .i64 k.kind, .slice ad k.n cap, .int .i64 k.e, .int .i64 k.cP, .int .i64 k.cA, .int .i64 k.cB, .int .i64 k.cN, .int .i64 k.cX, .int .i64 k.cY, .int .i64 k.q.x, .int .i64 k.q.y, .bool k.q.far, .int .i64 k.dP, .int .i64 k.dD, .int .i64 k.dL, .int .i64 k.dX, .int .i64 k.dY, .int .i64 k.a.x, .int .i64 k.a.y]] w fun e w' => GivesPc w (edC k) e w' := by
  obtain ⟨V, hV⟩ : ∃ V, w.alloc (.cells #[.int .i64 k.kind, .slice ad k.n cap, .int .i64 k.e, .int .i64 k.cP, .int .i64 k.cA, .int .i64 k.cB, .int .i64 k.cN, .int .i64 k.cX, .int .i64 k.cY, .int .i64 k.q.x, .int .i64 k.q.y, .bool k.q.far, .int .i64 k.dP, .int .i64 k.dD, .int .i64 k.dL, .int .i64 k.dX, .int .i64 k.dY, .int .i64 k.a.x, .int .i64 k.a.y] 42) = V := ⟨_, rfl⟩
  obtain ⟨B0, hE, hsz⟩ := box1 w [.int .i64 k.kind, .slice ad k.n cap, .int .i64 k.e, .int .i64 k.cP, .int .i64 k.cA, .int .i64 k.cB, .int .i64 k.cN, .int .i64 k.cX, .int .i64 k.cY, .int .i64 k.q.x, .int .i64 k.q.y, .bool k.q.far, .int .i64 k.dP, .int .i64 k.dD, .int .i64 k.dL, .int .i64 k.dX, .int .i64 k.dY, .int .i64 k.a.x, .int .i64 k.a.y] 42 (w1 := V) (by rw [hV]; exact Ext.refl _)
  have HA := hide B0
  have HE := hide hE
  have c0 := (B0 0 _ rfl).1
  have c12 := (B0 12 _ rfl).1
  have c13 := (B0 13 _ rfl).1
  have c14 := (B0 14 _ rfl).1
  have c15 := (B0 15 _ rfl).1
  have c16 := (B0 16 _ rfl).1
  have hwV : w.heap.size < V.heap.size := World.block_lt_of_cell? _ _ c0
  have hwV2 : w.heap.size ≤ V.heap.size := by omega
  have HI : Hid (∀ (S : Nat) (W : World), Seg W (some ⟨S, 0, none⟩) S 0 6 (fun i => ([3, k.dP, k.dD, k.dL, k.dX, k.dY] : List Int).getD i 0) → Calls Tryz.prog 103 #[.slice (some ⟨S, 0, none⟩) 6 6] W fun e w' => GivesPs W ([[intC 3], [intC k.dP], [intC k.dD], [intC k.dL], [intC k.dX], [intC k.dY]] : List (List Ic)) e w') := fun S W h => intPieces_any (some ⟨S, 0, none⟩) S 0 6 6 _ W h (by omega) (fun i hi => hf _ (by
    rw [List.getD_eq_getElem?_getD, List.getElem?_eq_getElem (by simpa using hi)]
    exact List.getElem_mem _))
  have HR : Hid (edC k = ⟨48, 7, []⟩ :: (([[intC 3], [intC k.dP], [intC k.dD], [intC k.dL], [intC k.dX], [intC k.dY]] : List (List Ic)).flatMap (fun x => x) ++ [⟨3, 0, 0 :: (List.range 3).map (prByte k.a)⟩])) := rfl
  generalize edC k = C at *
  have HN : Hid (6 = ([[intC 3], [intC k.dP], [intC k.dD], [intC k.dL], [intC k.dX], [intC k.dY]] : List (List Ic)).length ∧ ([[intC 3], [intC k.dP], [intC k.dD], [intC k.dL], [intC k.dX], [intC k.dY]] : List (List Ic)).flatMap (fun x => x) = ([[intC 3], [intC k.dP], [intC k.dD], [intC k.dL], [intC k.dX], [intC k.dY]] : List (List Ic)).flatMap (fun x => x) ∧ (([[intC 3], [intC k.dP], [intC k.dD], [intC k.dL], [intC k.dX], [intC k.dY]] : List (List Ic)).flatMap (fun x => x)).length = 6) := ⟨rfl, rfl, rfl⟩
  generalize ([[intC 3], [intC k.dP], [intC k.dD], [intC k.dL], [intC k.dX], [intC k.dY]] : List (List Ic)) = CI at *
  generalize prByte k.a = F at *
  clear hf hE B0
  go_enter Tryz.func45, Tryz.ntmps45
  go_wp2_with fail
  refine (HI.out V.heap.size _ (seg_lit _ _ rfl [3, k.dP, k.dD, k.dL, k.dX, k.dY] _ rfl)).mono ?_
  rintro e2 w2 ⟨q2, P, rfl, h2r, h2p, h2c, h2E⟩
  have H2r := hide h2r
  have H2p := hide h2p
  have H2c := hide h2c
  have H2E := hide h2E
  have X1 : Hid (Ext V w2) := hide (Ext.trans (Ext.alloc V _) h2E)
  have d17 := ((Blk.ext HA.out X1.out hwV) 17 _ rfl).1
  have d18 := ((Blk.ext HA.out X1.out hwV) 18 _ rfl).1
  clear h2r h2p h2c h2E c12 c13 c14 c15 c16
  have hPl : P.length = 6 := by rw [map_len H2c.out]; exact HN.out.1.symm
  rw [World.size_alloc] at H2r H2p ⊢
  have HPl := hide hPl
  obtain ⟨N, hN⟩ : ∃ N, P.length = N := ⟨_, rfl⟩
  rw [hN] at H2r ⊢
  have HN2 := hide hN
  clear hN hPl
  go_wp2_with fail
  refine (HP.out _).mono ?_
  rintro e3 w3 ⟨ya, yg, yc, rfl, hyB, hyE⟩
  have HY := hide hyE
  have HBt := hide (bitsPiece_any ya yg 0 3 yc F w3 hyB (by omega))
  clear hyB hyE
  go_wp2_with fail
  refine HBt.out.mono ?_
  rintro e4 w4 ⟨v4, L4, rfl, h4, h4c, h4E⟩
  obtain ⟨T4, t4, a4, n4, c4, rfl⟩ := h4.form
  have H4 := hide h4
  have H4c := hide h4c
  have H4E := hide h4E
  clear h4 h4c h4E
  go_wp2_with (at_builtin; refine stop_app rfl ?_)
  refine hide ?_
  have X24 : Hid (Ext w2 w4) := hide (Ext.trans HY.out H4E.out)
  have hsV := Below.size X1.out
  have hs4 := Below.size X24.out
  refine wpList_appP rfl _ _ rfl (V.heap.size + 1) _ N (P.map (·.1)) rfl (ownsRow_ext H2r.out (X24.out.trans (Ext.alloc _ _))) w4.heap.size (Value.iface T4 (.agg #[.int .i64 t4, .slice a4 n4 c4])) rfl (World.cell?_alloc_new _ _ _ _) rfl (by have := HPl.out; have := HN2.out; omega) (by have := (H2r.out.lt _ rfl).2; simp; omega) ?_
  intro v5 w5 h5 hg5
  obtain ⟨a5, c5, rfl⟩ := ownsRow_slc h5
  have hR2 : V.heap.size + 1 < w2.heap.size := (H2r.out.lt _ rfl).2
  have hag : Agr (V.heap.size + 1 + 1) w4.heap.size w4 w5 := fun k k1 k2 => (hg5.block k (by simp; omega) (by simp [Act.eval, Value.ownBlock]; omega)).trans (Below.heap_alloc _ _ _ k2)
  have hsz5 : w4.heap.size ≤ w5.heap.size := by have := hg5.size; simp at this; omega
  have S2 := (H2p.out.ext X24.out).keep (hag.sub (Nat.le_refl _) hs4) hsz5
  have S4 := ((H4.out.keep (hag.sub (by have := Below.size HY.out; omega) (Nat.le_refl _)) hsz5)).one
  have S5 := S2.cat S4 (by have := Below.size HY.out; omega) (Below.size HY.out) hs4
  have X5 : Hid (Ext V w5) := hide (Below.trans (X1.out.trans (X24.out.trans (Ext.alloc _ _))) ((Below.refl _ _).grown hg5 (by simp; omega) (fun j hj => by
    have e2 : V.heap.size + 1 = j := by simpa [Act.eval, Value.ownBlock] using hj
    omega)))
  have hml : (P ++ [(Value.iface T4 (.agg #[.int .i64 t4, .slice a4 n4 c4]), L4)]).map (·.1) = P.map (·.1) ++ [Value.iface T4 (.agg #[.int .i64 t4, .slice a4 n4 c4])] := by simp
  have HK := hide (Pce.knot (B := V.heap.size + 1) (a := a5) (n := N + 1) (cap := c5) 48 (S5.wide (B' := V.heap.size + 1) (E' := w4.heap.size) (by omega) (Nat.le_refl _) hsz5) (by rw [hml, List.length_append, HN2.out]; exact h5) (by
    have e1 : ((P ++ [(Value.iface T4 (.agg #[.int .i64 t4, .slice a4 n4 c4]), L4)]).flatMap (·.2)).length = 6 + 1 := by
      have h0 : (P.flatMap (·.2)).map ct = CI.flatMap (fun x => x) := by rw [← H2c.out, List.map_flatMap, List.flatMap_map]
      have h1 := map_len h0
      have h2 := map_len H4c.out
      rw [HN.out.2.2] at h1
      have h3 : L4.length = 1 := by simpa using h2
      simp [List.flatMap_append, h1, h3]
    rw [e1]
    omega) (by rw [List.length_append, HPl.out]; simp))
  clear hg5 h5 S2 S4 S5 hml hag
  obtain ⟨N1, hN1⟩ : ∃ N1, N + 1 = N1 := ⟨_, rfl⟩
  rw [hN1] at HK ⊢
  clear hN1
  go_wp2_with fail
  refine (listPiece_any _ _ _ w5).mono ?_
  rintro e7 w7 ⟨rfl, hw7⟩
  obtain rfl := hw7.symm
  go_wp2
  go_ret
  exact ⟨_, _, rfl, HK.out.wide (by omega) (Nat.le_refl _) (Nat.le_refl _), by
    rw [List.map_cons, ct_bare, HR.out, ← H4c.out, ← H2c.out, List.length_append, HPl.out]
    simp [List.map_flatMap, List.flatMap_map], HE.out.trans X5.out⟩
end

section
set_option linter.unusedVariables false

open Go.RowKit

theorem Tab.one {w : World} (h : Tab w) : 5 < w.heap.size := World.block_lt_of_cell? _ _ (h 0 (by omega))

theorem Tab.below {w w' : World} (h : Tab w) {S : Nat} (hb : Below S w w') (hS : 5 < S) : Tab w' := fun j hj => (hb.cell (p := ⟨5, j, none⟩) hS).trans (h j hj)

theorem Tab.all {w w' : World} (h : Tab w) (hb : Below w.heap.size w w') : Tab w' := h.below hb h.one

theorem Tab.ext {w w' : World} (h : Tab w) (hb : Ext w w') : Tab w' := h.all hb
end

end Go.Proofs.YtnnandjphlajnaaGreatDoor
