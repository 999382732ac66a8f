/- Walks: the model's key as items, of a twisted curve. -/
import Derived.Test.YtnnandjphlajnaaGreatDoorKt34
namespace Go.Proofs.YtnnandjphlajnaaGreatDoor

section
set_option linter.unusedVariables false
set_option linter.unusedSimpArgs false

open Go.RowKit

set_option maxHeartbeats 3200000 in
set_option maxRecDepth 100000 in
theorem l10Key_ed (k : Ky) (ad : Option Addr) (b off cap : Nat) (w : World) (g1 : (k.kind == 1) = false) (g2 : (k.kind == 2) = false)
    (HP : Hid (∀ W, Calls Tryz.prog 96 #[.agg #[.int .i64 k.dP, .int .i64 k.dD, .int .i64 k.dL, .int .i64 k.dX, .int .i64 k.dY], .agg #[.int .i64 k.a.x, .int .i64 k.a.y]] W fun e w' => GivesBt W 3 (prByte k.a) true e w')) (hf : ∀ z ∈ [3, k.dP, k.dD, k.dL, k.dX, k.dY], -9223372036854775808 ≤ z ∧ z ≤ 9223372036854775807) :
    Calls Tryz.prog 38 #[.agg #[.int .i64 k.kind, .slice ad k.n cap, .int .i64 k.e, .int .i64 k.cP, .int .i64 k.cA, .int .i64 k.cB, .int .i64 k.cN, .int .i64 k.cX, .int .i64 k.cY, .int .i64 k.q.x, .int .i64 k.q.y, .bool k.q.far, .int .i64 k.dP, .int .i64 k.dD, .int .i64 k.dL, .int .i64 k.dX, .int .i64 k.dY, .int .i64 k.a.x, .int .i64 k.a.y]] w fun e w' => GivesIs w.heap.size w (edC k) e w' := by
  obtain ⟨V, hV⟩ : ∃ V, w.alloc (.cells #[.int .i64 k.kind, .slice ad k.n cap, .int .i64 k.e, .int .i64 k.cP, .int .i64 k.cA, .int .i64 k.cB, .int .i64 k.cN, .int .i64 k.cX, .int .i64 k.cY, .int .i64 k.q.x, .int .i64 k.q.y, .bool k.q.far, .int .i64 k.dP, .int .i64 k.dD, .int .i64 k.dL, .int .i64 k.dX, .int .i64 k.dY, .int .i64 k.a.x, .int .i64 k.a.y] 42) = V := ⟨_, rfl⟩
  obtain ⟨B0, hE, hsz⟩ := box1 w [.int .i64 k.kind, .slice ad k.n cap, .int .i64 k.e, .int .i64 k.cP, .int .i64 k.cA, .int .i64 k.cB, .int .i64 k.cN, .int .i64 k.cX, .int .i64 k.cY, .int .i64 k.q.x, .int .i64 k.q.y, .bool k.q.far, .int .i64 k.dP, .int .i64 k.dD, .int .i64 k.dL, .int .i64 k.dX, .int .i64 k.dY, .int .i64 k.a.x, .int .i64 k.a.y] 42 (w1 := V) (by rw [hV]; exact Ext.refl _)
  have HA := hide B0
  have HE := hide hE
  have c0 := (B0 0 _ rfl).1
  have c12 := (B0 12 _ rfl).1
  have c13 := (B0 13 _ rfl).1
  have c14 := (B0 14 _ rfl).1
  have c15 := (B0 15 _ rfl).1
  have c16 := (B0 16 _ rfl).1
  have c17 := (B0 17 _ rfl).1
  have c18 := (B0 18 _ rfl).1
  have hwV : w.heap.size < V.heap.size := World.block_lt_of_cell? _ _ c0
  have hwV2 : w.heap.size ≤ V.heap.size := by omega
  have HI : Hid (∀ (S : Nat) (W : World), Seg W (some ⟨S, 0, none⟩) S 0 6 (fun i => ([3, k.dP, k.dD, k.dL, k.dX, k.dY] : List Int).getD i 0) → Calls Tryz.prog 95 #[.slice (some ⟨S, 0, none⟩) 6 6] W fun e w' => GivesIs W.heap.size W ([intC 3, intC k.dP, intC k.dD, intC k.dL, intC k.dX, intC k.dY]) e w') := fun S W h => l10Ints_any (some ⟨S, 0, none⟩) S 0 6 6 _ W h (by omega) (fun i hi => hf _ (by
    rw [List.getD_eq_getElem?_getD, List.getElem?_eq_getElem (by simpa using hi)]
    exact List.getElem_mem _))
  have HR : Hid (edC k = ⟨48, 7, []⟩ :: ([intC 3, intC k.dP, intC k.dD, intC k.dL, intC k.dX, intC k.dY] ++ [⟨3, 0, 0 :: (List.range 3).map (prByte k.a)⟩])) := rfl
  generalize edC k = C at *
  have HN : Hid (6 = ([intC 3, intC k.dP, intC k.dD, intC k.dL, intC k.dX, intC k.dY] : List Ic).length) := rfl
  generalize ([intC 3, intC k.dP, intC k.dD, intC k.dL, intC k.dX, intC k.dY] : List Ic) = CI at *
  generalize prByte k.a = F at *
  clear hf hE B0
  go_enter Tryz.func38, Tryz.ntmps38
  go_wp2_with (at_builtin; refine stop_app rfl ?_)
  refine (HP.out _).mono ?_
  rintro e1 w1 ⟨ya, yg, yc, rfl, hyg, hyO, hyE, -, -⟩
  have HO := hide hyO
  have HY := hide hyE
  have d12 := ((Blk.ext HA.out hyE hwV) 12 _ rfl).1
  have d13 := ((Blk.ext HA.out hyE hwV) 13 _ rfl).1
  have d14 := ((Blk.ext HA.out hyE hwV) 14 _ rfl).1
  have d15 := ((Blk.ext HA.out hyE hwV) 15 _ rfl).1
  have d16 := ((Blk.ext HA.out hyE hwV) 16 _ rfl).1
  clear hyO hyE c12 c13 c14 c15 c16 c17 c18
  go_wp2_with (at_builtin; refine stop_app rfl ?_)
  refine (HI.out (w1.heap.size + 1) _ (seg_lit _ _ (by simp) [3, k.dP, k.dD, k.dL, k.dX, k.dY] _ rfl)).mono ?_
  rintro e2 w2 ⟨v2, L2, rfl, h2, h2c, h2E⟩
  have H2 := hide h2
  have H2c := hide h2c
  have H2E := hide h2E
  obtain ⟨a2, c2, rfl⟩ := ownsRow_slc h2.row
  clear h2 h2c h2E
  go_wp2_with (at_builtin; refine stop_app rfl ?_)
  refine hide ?_
  have X2 : Hid (Ext w1 w2) := hide (Ext.trans (Ext.trans (Ext.alloc w1 _) (Ext.alloc _ _)) H2E.out)
  have XV : Hid (Ext V w2) := hide (Ext.trans HY.out X2.out)
  have HOw := hide ((HO.out.of_all X2.out).of_all (Ext.alloc w2 (.cells #[.int .u8 0] 5)))
  refine wpList_append_bs rfl _ _ rfl w2.heap.size _ 1 (byts (fun _ => 0) 1) rfl (owns_one8 w2 0) ya yg 0 3 yc F rfl HOw.out.toBSeg (by omega) (by simp) ?_
  intro v4 w4 h1 h2
  rw [byts_cons] at h1
  obtain ⟨xa, xg, xc, rfl, hxg, -, -, hxB⟩ := owns_seg (n := 4) h1
  have X4 : Hid (Ext w2 w4) := hide (Below.trans (Ext.alloc _ _) h2)
  have HIt := hide (l10Item_any 3 xa xg 0 4 xc (consF 0 F) w2.heap.size w4 hxB hxg (Below.size X4.out))
  rw [consF_map] at HIt
  clear h1 h2 hxB HO HOw
  go_wp2_with (at_builtin; refine stop_app rfl ?_)
  refine HIt.out.mono ?_
  rintro e5 w5 ⟨v5, L5, rfl, h5, h5c, h5E⟩
  have H5 := hide h5
  have H5c := hide h5c
  have H5E := hide h5E
  obtain ⟨a5, c5, rfl⟩ := ownsRow_slc h5.row
  clear h5 h5c h5E
  go_wp2_with (at_builtin; refine stop_app rfl ?_)
  refine hide ?_
  have A2 : LAcc V.heap.size w2 _ L2 := H2.out.low (Nat.le_trans (Below.size HY.out) (by simp; omega))
  have lat := A2.later (X4.out.trans H5E.out) H5.out.bods (Below.size XV.out)
  refine wpList_appL rfl _ _ rfl V.heap.size w2.heap.size w2 _ _ L2 L5 rfl A2 (X4.out.trans H5E.out) rfl H5.out.row lat.1 lat.2 (by rw [map_len H2c.out, map_len H5c.out, ← HN.out]; simp) (Below.size XV.out) ?_
  intro v6 w6 hA6 hB6
  have X6 : Hid (Ext V w6) := hide (Below.trans (XV.out.trans (X4.out.trans H5E.out)) (hB6 _ (fun j hj => (A2.row.lt j hj).1) (Below.size (XV.out.trans (X4.out.trans H5E.out)))))
  have HMd := hide (l10Made_any 48 7 v6 (L2 ++ L5) V.heap.size w6 hA6 (by rw [List.length_append, map_len H2c.out, map_len H5c.out, ← HN.out]; simp) (Below.size X6.out))
  obtain ⟨a6, c6, rfl⟩ := ownsRow_slc hA6.row
  clear hA6 hB6 lat A2
  obtain ⟨N6, hN6⟩ : ∃ N, (L2 ++ L5).length = N := ⟨_, rfl⟩
  rw [hN6] at HMd ⊢
  clear hN6
  go_wp2_with (at_builtin; refine stop_app rfl ?_)
  refine HMd.out.mono ?_
  rintro e7 w7 ⟨v7, L7, rfl, h7, h7c, h7E⟩
  have H7 := hide h7
  have H7c := hide h7c
  have H7E := hide h7E
  obtain ⟨a7, c7, rfl⟩ := ownsRow_slc h7.row
  clear h7 h7c h7E
  go_wp2
  go_ret
  exact ⟨_, L7, rfl, H7.out.low hwV2, by rw [H7c.out, HR.out, List.map_append, H2c.out, H5c.out], HE.out.trans (X6.out.trans H7E.out)⟩
end

end Go.Proofs.YtnnandjphlajnaaGreatDoor
