/- Walks: the program makes pieces out of a right tree (pieceAt, pieceOf). Walks: the face of the program: want, what recovers, answered. Extensions: lists of lists of numbers and extensions in memory; the laws' own helpers over them; extensions that came in, opened (written by mkexs.py). Walks: the program's allOk over lists whose elements are one cell each (written by mkaok.py). -/
import Derived.Test.YtkogbinfhoiggaaGreatDoorCx29
import Derived.Defers
import Derived.Recover
import Derived.Handy
import Derived.Laws.EntriesVeiled
namespace Go.Proofs.YtkogbinfhoiggaaGreatDoor
set_option linter.unusedVariables false
set_option linter.unusedSimpArgs false
section
open Go.RowKit
def PieAt (x : Nat → It) (n : Nat) (W : World) : Nat → Nat → Value → Nat → Prop
 | 0, _, _, _ => False
 | m + 1, B, v, i => i < n ∧ (
  (mdT (x i).tag = false ∧ v = .iface 140 (.agg #[.int .i64 (x i).tag, .slice (x i).ad (x i).len (x i).cap])) ∨
  (mdT (x i).tag = true ∧ ∃ b : Nat, B ≤ b ∧ b < W.heap.size ∧ v = .iface 133 (.agg #[.int .i64 (x i).tag, .slice (some ⟨b, 0, none⟩) (x i).kid.toNat (x i).kid.toNat]) ∧
   ∀ j, j < (x i).kid.toNat → ∃ u, W.cell? ⟨b, j, none⟩ = some u ∧ PieAt x n W m (b + 1) u (kpl x n i j)))
theorem PieAt.keep {x : Nat → It} {n : Nat} {W W' : World} (hs : W.heap.size ≤ W'.heap.size) : ∀ (m B : Nat) (v : Value) (i : Nat), PieAt x n W m B v i → (∀ k, B ≤ k → k < W.heap.size → W'.heap[k]? = W.heap[k]?) → PieAt x n W' m B v i
 | 0, _, _, _, h, _ => h.elim
 | m + 1, B, v, i, h, hk => by
  obtain ⟨h1, h2⟩ := h
  refine ⟨h1, ?_⟩
  rcases h2 with h2 | ⟨h2, b, hb, hl, hv, hc⟩
  ·exact .inl h2
  ·refine .inr ⟨h2, b, hb, by omega, hv, fun j hj => ?_⟩
   obtain ⟨u, hu, hp⟩ := hc j hj
   exact ⟨u, (World.cell?_of_block (a := ⟨b, j, none⟩) (hk b hb hl)).trans hu, hp.keep hs m (b + 1) u _ (fun k h3 h4 => hk k (by omega) h4)⟩
theorem PieAt.ext {x : Nat → It} {n : Nat} {W W' : World} {m B : Nat} {v : Value} {i : Nat} (h : PieAt x n W m B v i) (e : Ext W W') : PieAt x n W' m B v i := h.keep (Below.size e) m B v i (fun k _ hk => Below.block e k hk)
theorem PieAt.low {x : Nat → It} {n : Nat} {W : World} {m B B' : Nat} {v : Value} {i : Nat} (h : PieAt x n W m B v i) (e : B' ≤ B) : PieAt x n W m B' v i := by
 cases m with
 | zero => exact h.elim
 | succ m =>
  obtain ⟨h1, h2⟩ := h
  refine ⟨h1, ?_⟩
  rcases h2 with h2 | ⟨h2, b, hb, hl, hv, hc⟩
  ·exact .inl h2
  ·exact .inr ⟨h2, b, by omega, hl, hv, hc⟩
theorem PieAt.form {x : Nat → It} {n : Nat} {W : World} {m B : Nat} {v : Value} {i : Nat} (h : PieAt x n W m B v i) : ∃ T u, v = .iface T u := by
 cases m with
 | zero => exact h.elim
 | succ m =>
  rcases h.2 with h2 | ⟨h2, b, hb, hl, hv, hc⟩
  ·exact ⟨_, _, h2.2⟩
  ·exact ⟨_, _, hv⟩
def GivesPa (x : Nat → It) (n m i : Nat) (E : Int) (w : World) (e : Ending) (w' : World) : Prop := ∃ v, e = .returned (.tuple #[v, .int .i64 E]) ∧ PieAt x n w' m w.heap.size v i ∧ Ext w w'
set_option maxHeartbeats 6400000 in
set_option maxRecDepth 100000 in
theorem pieceAt_any (a : Option Addr) (S off n cap : Nat) (x : Nat → It) (w0 : World) (hs : ISeg w0 a S off n x) (hn : n ≤ 300) (hg : ∀ i, i < n → itGood (x i)) :
  ∀ (m : Nat), m ≤ 13 → ∀ (i : Nat) (w : World), Ext w0 w → 0 ≤ endF (fun j => (x j).kid) n m i → Calls Tryz.prog 55 #[.slice a n cap, .int .i64 (i : Int)] w (GivesPa x n m i (endF (fun j => (x j).kid) n m i) w)
 | 0, _, i, w, _, h => by simp [endF] at h
 | m + 1, hm, i, w, hE, h => by
  have hi := endF_lt h
  obtain ⟨he, hk⟩ := kpl_m hm h
  have IH := hide (fun i w h1 h2 => pieceAt_any a S off n cap x w0 hs hn hg m (by omega) i w h1 h2)
  have hit := hg i hi
  have hsW := hs.of_all hE
  have c0 := hsW.c0 i hi
  have c1 := hsW.c1 i hi
  have c2 := hsW.c2 i hi
  obtain rfl := hsW.at' (by omega)
  obtain ⟨K, hK⟩ : ∃ K : Nat, (x i).kid = (K : Int) := ⟨(x i).kid.toNat, by have := hit.2.2.2.1; omega⟩
  have hKn : (x i).kid.toNat = K := by rw [hK]; rfl
  have hK300 : K ≤ 300 := by have := hit.2.2.2.2.1; omega
  rw [hKn] at hk he
  rw [he]
  rw [hK] at c2
  have HT : Hid (∀ W, Calls Tryz.prog 77 #[.int .i64 (x i).tag] W fun e w' => e = .returned (.bool (mdT (x i).tag)) ∧ w' = W) := hide (fun W => isMade_any (x i).tag W hit.1 hit.2.1)
  have hii : (i : Int) < (n : Int) := by omega
  obtain ⟨V, hV⟩ : ∃ V, (w.alloc (.cells #[.int .i64 (x i).tag, .slice (x i).ad (x i).len (x i).cap, .int .i64 (K : Int)] 40)).alloc (.cells #[.int .i64 (x i).tag] 131) = V := ⟨_, rfl⟩
  have B0 : Blk V w.heap.size [.int .i64 (x i).tag, .slice (x i).ad (x i).len (x i).cap, .int .i64 (K : Int)] := by
   rw [← hV]
   exact (Blk.alloc w [.int .i64 (x i).tag, .slice (x i).ad (x i).len (x i).cap, .int .i64 (K : Int)] 40).ext (Ext.alloc _ _) (by simp)
  have B1 : Blk V (w.heap.size + 1) [.int .i64 (x i).tag] := by
   rw [← hV]
   have := Blk.alloc (w.alloc (.cells #[.int .i64 (x i).tag, .slice (x i).ad (x i).len (x i).cap, .int .i64 (K : Int)] 40)) [.int .i64 (x i).tag] 131
   simpa using this
  have EV : Ext w V := by rw [← hV]; exact Ext.trans (Ext.alloc _ _) (Ext.alloc _ _)
  have sV : V.heap.size = w.heap.size + 2 := by rw [← hV]; simp
  have HB := hide (And.intro B0 B1)
  have HEV := hide EV
  have HsV := hide sV
  have Hk := hide hk
  have HK := hide hK
  have HKn := hide hKn
  have Hi := hide hi
  have Hgd := hide hit
  have HE := hide hE
  have HV := hide hV
  obtain ⟨b00, b01⟩ := B0 0 _ rfl
  obtain ⟨b10, b11⟩ := B0 1 _ rfl
  obtain ⟨b20, b21⟩ := B0 2 _ rfl
  obtain ⟨t00, t01⟩ := B1 0 _ rfl
  obtain ⟨p, hp⟩ : ∃ p, kpl x n i 0 = p := ⟨_, rfl⟩
  have hp1 : p = i + 1 := by rw [← hp]; rfl
  have Hp := hide hp
  clear hsW hk hK hKn hit hs B0 B1 EV sV hE h he hp
  clear hV
  go_enter Tryz.func55, Tryz.ntmps55
  go_wp2_with fail
  rw [HV.out]
  refine (HT.out _).mono ?_
  rintro e w1 ⟨rfl, hw⟩
  obtain rfl := hw.symm
  clear hw HT
  obtain ⟨tg, htg⟩ : ∃ t, (x i).tag = t := ⟨_, rfl⟩
  obtain ⟨ad, had⟩ : ∃ t, (x i).ad = t := ⟨_, rfl⟩
  obtain ⟨ln, hln⟩ : ∃ t, (x i).len = t := ⟨_, rfl⟩
  obtain ⟨cp, hcp⟩ : ∃ t, (x i).cap = t := ⟨_, rfl⟩
  rw [htg] at c0 b00 t00 HB ⊢
  rw [had, hln, hcp] at c1 b10 HB
  rw [had, hln, hcp]
  have Htg := hide htg
  have Hfl := hide (And.intro had (And.intro hln hcp))
  cases hm : mdT tg
  ·have hk0 : K = 0 := by
    have h1 := Hgd.out.2.2.2.2.2.2 (by rw [htg]; intro e; rw [(mdT_iff _).2 e] at hm; cases hm)
    have h2 := HK.out
    omega
   have HR : Hid (GivesPa x n (m + 1) i (kpl x n i K : Int) w (.returned (.tuple #[.iface 140 (.agg #[.int .i64 tg, .slice ad ln cp]), .int .i64 ((i + 1 : Nat) : Int)])) V) := hide ⟨_, by rw [hk0]; rfl, ⟨Hi.out, .inl ⟨by rw [htg]; exact hm, by rw [htg, had, hln, hcp]⟩⟩, HEV.out⟩
   clear htg had hln hcp hm Hk HsV HKn
   go_wp2
   go_ret2
   exact HR.out
  ·clear htg had hln hcp
   have Hm := hide hm
   have hmk := fun W => run_make_pcs K (by omega) W
   have hO := owns_nils V K (by omega)
   have E2 := Ext.alloc V (.cells (madeCells #[.nilIface] K) 51)
   have hs2 : (V.alloc (.cells (madeCells #[.nilIface] K) 51)).heap.size = V.heap.size + 1 := by simp
   obtain ⟨V2, hV2⟩ : ∃ z, V.alloc (.cells (madeCells #[.nilIface] K) 51) = z := ⟨_, rfl⟩
   rw [hV2] at hO E2 hs2
   have HO := hide hO
   have HE2 := hide E2
   have Hs2 := hide hs2
   have hK0 : (0 : Int) ≤ (K : Int) := by omega
   have t00' := (Below.cell E2 (p := ⟨w.heap.size + 1, 0, none⟩) (by rw [HsV.out]; exact Nat.lt_succ_self _)).trans t00
   have HV2 := hide hV2
   clear hO E2 hs2 hV2 hm
   have t00f := t00'
   clear t00 t00' b00 b10 b20 b01 b11 b21 c0 c1 c2
   have HT00 := hide t00f
   have Hb2 : Hid (V.cell? ⟨w.heap.size, 2, none⟩ = some (.int .i64 (K : Int))) := hide (HB.out.1 2 _ rfl).1
   have b2 := Hb2.out
   clear t00f
   go_wp2
   try rw [HV2.out]
   clear b2 hmk
   go_loopw [7, 10, 35] (fun nx ix rx wr => ∃ (j : Nat) (xs : List Value), j ≤ K ∧ nx = .int .i64 (kpl x n i j : Int) ∧ rx = .int .i64 (j : Int) ∧ wr.ownsRow V.heap.size 51 1 (.slice (some ⟨V.heap.size, 0, none⟩) K K) K xs ∧ (∀ q, q < j → ∃ u, xs[q]? = some u ∧ PieAt x n wr m (V.heap.size + 1) u (kpl x n i q)) ∧ Below V.heap.size V2 wr) (fun _ _ rx _ => K - (intOf rx).toNat)
   case atStart => exact ⟨0, _, Nat.zero_le _, rfl, rfl, HO.out, fun q hq => absurd hq (Nat.not_lt_zero _), Below.refl _ _⟩
   case round =>
    clear HO
    obtain ⟨j, xs, hj, rfl, rfl, hO, hP, hB⟩ := hrel
    have HO := hide hO
    have HP := hide hP
    have HBl := hide hB
    clear hO hP hB
    have hVs := HsV.out
    by_cases hjK : j < K
    ·have hjK' : (j : Int) < (K : Int) := by omega
     obtain ⟨k1, k2, k3, k4⟩ := Hk.out j hjK
     have HC := hide (IH.out (kpl x n i j) wr (Below.trans (HE.out.trans (HEV.out.trans HE2.out)) (HBl.out.mono (Nat.le_trans (Below.size HE.out) (by omega)))) (by rw [k2]; omega))
     rw [k2] at HC
     have Hwj : Hid (wrap64 ((j : Int) + 1) = ((j + 1 : Nat) : Int)) := hide (by unfold wrap64; omega)
     obtain ⟨p1, hp1⟩ : ∃ p1, kpl x n i (j + 1) = p1 := ⟨_, rfl⟩
     obtain ⟨p0, hp0⟩ : ∃ p0, kpl x n i j = p0 := ⟨_, rfl⟩
     rw [hp1, hp0] at HC
     rw [hp0]
     have Hp1 := hide hp1
     have Hp0 := hide hp0
     clear k1 k2 k3 k4 hp1 hp0 hVs
     go_wp2_with fail
     refine HC.out.mono ?_
     rintro e w4 ⟨v, rfl, hP4, hE4⟩
     have hO4 := ownsRow_ext HO.out hE4
     obtain ⟨T4, u4, rfl⟩ := hP4.form
     have hgl := (hO4.lt V.heap.size rfl).2
     have hgw := (HO.out.lt V.heap.size rfl).2
     have hcell := World.ownsRow.cellAt hO4 j (by omega)
     have hfr := World.ownsRow.frozenAt hO4 j
     obtain ⟨u0, hu0⟩ : ∃ u, xs[j]? = some u := ⟨xs[j]'(by have := HO.out.1; omega), List.getElem?_eq_getElem _⟩
     rw [hu0] at hcell
     have hst := (World.ownsRow.stored hO4 j (.iface T4 u4)).1
     have hkeep : ∀ q u, PieAt x n wr m (V.heap.size + 1) u q → PieAt x n (w4.setCell ⟨V.heap.size, j, none⟩ (.iface T4 u4)) m (V.heap.size + 1) u q := fun q u h => (h.ext hE4).keep (by simp [World.setCell]) m _ u q (fun k h1 _ => Below.heap_setCell _ _ _ _ (by show k ≠ V.heap.size; omega))
     have hnew : PieAt x n (w4.setCell ⟨V.heap.size, j, none⟩ (.iface T4 u4)) m (V.heap.size + 1) (.iface T4 u4) p0 := (hP4.low (show V.heap.size + 1 ≤ wr.heap.size by omega)).keep (by simp [World.setCell]) m _ _ p0 (fun k h1 _ => Below.heap_setCell _ _ _ _ (by show k ≠ V.heap.size; omega))
     have HR : Hid (∀ q, q < j + 1 → ∃ u, (xs.set j (.iface T4 u4))[q]? = some u ∧ PieAt x n (w4.setCell ⟨V.heap.size, j, none⟩ (.iface T4 u4)) m (V.heap.size + 1) u (kpl x n i q)) := hide (fun q hq => by
      by_cases hqj : q = j
      ·subst hqj
       exact ⟨.iface T4 u4, by rw [List.getElem?_set_self (by have := HO.out.1; omega)], by rw [Hp0.out]; exact hnew⟩
      ·obtain ⟨u, h1, h2⟩ := HP.out q (by omega)
       exact ⟨u, by rw [List.getElem?_set_ne (fun e => hqj e.symm)]; exact h1, hkeep _ u h2⟩)
     have HS := hide hst
     have HB5 := hide (Below.setCell (p := ⟨V.heap.size, j, none⟩) (Below.trans HBl.out (hE4.mono (by omega))) (Nat.le_refl _) (.iface T4 u4))
     have hc : w4.cell? ⟨V.heap.size, j, none⟩ = some u0 := hcell
     have hf : w4.frozen? ⟨V.heap.size, j, none⟩ = false := hfr
     clear hP4 hE4 hO4 hgl hgw hcell hfr hu0 hst hkeep hnew HC
     go_wp2
     go_roundw
     case rel => exact ⟨j + 1, _, hjK, by rw [Hp1.out], by first | rfl | rw [Hwj.out], HS.out, HR.out, HB5.out⟩
     case measure => first | (simp only [intOf]; omega) | (rw [Hwj.out]; simp only [intOf]; omega)
    ·obtain rfl : j = K := by omega
     have t0 := (Below.cell HBl.out (p := ⟨w.heap.size + 1, 0, none⟩) (by show w.heap.size + 1 < V.heap.size; omega)).trans HT00.out
     have HR : Hid (GivesPa x n (m + 1) i (kpl x n i j : Int) w (.returned (.tuple #[.iface 133 (.agg #[.int .i64 tg, .slice (some ⟨V.heap.size, 0, none⟩) j j]), .int .i64 (kpl x n i j : Int)])) wr) := hide ⟨_, rfl, ⟨Hi.out, .inr ⟨by rw [Htg.out]; exact Hm.out, V.heap.size, by omega, (HO.out.lt V.heap.size rfl).2, by rw [Htg.out, HKn.out], fun q hq => by
      rw [HKn.out] at hq
      obtain ⟨u, h1, h2⟩ := HP.out q hq
      refine ⟨u, ?_, h2⟩
      have := World.ownsRow.cellAt HO.out q (by omega)
      rw [h1] at this
      exact this⟩⟩, Below.trans (HEV.out.trans HE2.out) (HBl.out.mono (Below.size HEV.out))⟩
     have hjn : ¬ (j : Int) < (j : Int) := by omega
     clear HP HO HBl hVs
     go_wp2
     go_ret2
     exact HR.out
theorem pieceOf_any (a : Option Addr) (S off n cap : Nat) (x : Nat → It) (w : World) (hs : ISeg w a S off n x) (ht : treeV x n = true) :
  Calls Tryz.prog 25 #[.slice a n cap] w fun e w' => ∃ v, e = .returned v ∧ PieAt x n w' 13 w.heap.size v 0 ∧ Ext w w' := by
 have hg := tree_good ht
 have h0 : endF (fun j => (x j).kid) n 13 0 = (n : Int) := by
  unfold treeV at ht
  rw [decide_eq_true_eq] at ht
  exact ht.2.2.2
 have HC := hide (pieceAt_any a S off n cap x w hs hg.2.1 hg.2.2 13 (Nat.le_refl _) 0 w (Ext.refl _) (by rw [h0]; omega))
 clear hs ht hg h0
 generalize endF (fun j => (x j).kid) n 13 0 = E at *
 go_enter Tryz.func25, Tryz.ntmps25
 go_wp2_with fail
 refine HC.out.mono ?_
 rintro e w1 ⟨v, rfl, hP, hE⟩
 have HP := hide hP
 have HE := hide hE
 clear hP hE
 go_wp2
 go_ret
 exact ⟨v, rfl, HP.out, HE.out⟩
def nrE : PanicEntry := { v := .iface 81 (.agg #[]), recovered := false }
theorem want_yes (w : World) : Calls Tryz.prog 23 #[.bool true] w fun e w' => e = .returned (.tuple #[]) ∧ w' = w := by
 have hnot : ∀ (x : Bool) (w : World), (Op.unary .not (.bool x)).run Tryz.prog w = .ok (.bool (!x)) w := fun _ _ => rfl
 go_enter Tryz.func23, Tryz.ntmps23
 go_wp2
 go_end0
 exact ⟨rfl, rfl⟩
theorem want_no (w : World) : Calls Tryz.prog 23 #[.bool false] w fun e w' => e = .panicked [nrE] ∧ w' = w := by
 go_enter Tryz.func23, Tryz.ntmps23
 go_wp2
 exact ⟨rfl, rfl, rfl⟩
end
section
set_option maxRecDepth 100000
open Go.RowKit
structure Plc where
 ad : Option Addr
 b : Nat
 off : Nat
 cap : Nat
theorem eqInts_same (p p2 : Plc) (n : Nat) (f : Nat → Int) (W : World) (hs : Seg W p.ad p.b p.off n f) (hs2 : Seg W p2.ad p2.b p2.off n f) (hn : n ≤ 1048576) :
  Calls Tryz.prog 30 #[.slice p.ad n p.cap, .slice p2.ad n p2.cap] W fun e w' => e = .returned (.bool true) ∧ Ext W w' :=
 (eqIntS_any p.ad p.b p.off n p.cap f p2.ad p2.b p2.off n p2.cap f W hs hs2 hn).mono fun e w' ⟨h1, z, h2⟩ => ⟨by rw [h1, (alike_iff _ _ _).2 (fun _ _ => rfl)]; simp, by rw [h2]; exact below_drewN (Ext.refl _) _⟩
end
section
set_option maxRecDepth 100000
open Go.RowKit
structure VSeg (w : World) (a : Option Addr) (b off n : Nat) (v : Nat → Value) : Prop where
 at' : 0 < n → a = some ⟨b, off, none⟩
 cell : ∀ i, i < n → w.cell? ⟨b, off + i, none⟩ = some (v i)
theorem VSeg.lt {w : World} {a : Option Addr} {b off n : Nat} {v : Nat → Value} (h : VSeg w a b off n v) (hn : 0 < n) : b < w.heap.size := World.block_lt_of_cell? _ _ (h.cell 0 hn)
theorem VSeg.of_all {w w' : World} {a : Option Addr} {b off n : Nat} {v : Nat → Value} (h : VSeg w a b off n v) (e : Ext w w') : VSeg w' a b off n v :=
 ⟨h.at', fun i hi => (Below.cell e (p := ⟨b, off + i, none⟩) (h.lt (by omega))).trans (h.cell i hi)⟩
theorem SSeg.v {w : World} {a : Option Addr} {b off n : Nat} {f : Nat → ByteArray} (h : SSeg w a b off n f) : VSeg w a b off n (fun i => .string (f i)) := ⟨h.at', h.cell⟩
theorem Seg.v {w : World} {a : Option Addr} {b off n : Nat} {f : Nat → Int} (h : Seg w a b off n f) : VSeg w a b off n (fun i => .int .i64 (f i)) := ⟨h.at', h.cell⟩
def IdxQ (R : Bool) (e : Ending) : Prop := ∃ z : Int, e = .returned (.int .i64 z) ∧ decide (0 ≤ z) = R
set_option maxHeartbeats 1600000 in
theorem idxS_any (F : Nat) (c : Value) (hF : ∀ (args : Array Value) (w : World), (callFunc F args).run Tryz.prog w = .ok (.enter F args) w) (p : Nat → Bool) (a : Option Addr) (b off n cap : Nat) (v : Nat → Value) (w : World) (hs : VSeg w a b off n v) (hn : n ≤ 1048576)
  (HC : Hid (∀ i, i < n → ∀ W, Ext w W → Calls Tryz.prog F #[v i, c] W fun e w' => e = .returned (.bool (p i)) ∧ Ext W w')) :
  Calls Tryz.prog 151 #[.slice a n cap, .func (.func F) #[] #[c]] w fun e w' => IdxQ (anyB p n) e ∧ Ext w w' := by
 have Hs := hide hs
 obtain ⟨R, hR⟩ : ∃ R, R = anyB p n := ⟨_, rfl⟩
 rw [← hR]
 have HR := hide hR
 clear hs hR
 go_enter Tryz.func151, Tryz.ntmps151
 go_wp2
 go_loopw [8] (fun i wr => ∃ k : Nat, k ≤ n ∧ i = .int .i64 (k : Int) ∧ (∀ j, j < k → p j = false) ∧ Ext w wr) (fun i _ => n - (intOf i).toNat)
 case atStart => exact ⟨0, Nat.zero_le _, rfl, fun j hj => absurd hj (Nat.not_lt_zero _), Ext.refl _⟩
 case round =>
  obtain ⟨k, hk, rfl, hd, hE⟩ := hrel
  have HD := hide hd
  have HE := hide hE
  by_cases hlt : k < n
  ·obtain rfl := Hs.out.at' (by omega)
   have c1 := (Hs.out.of_all hE).cell k hlt
   have hkn : (k : Int) < (n : Int) := by omega
   have HX := hide (HC.out k hlt _ hE)
   obtain ⟨q, hq⟩ : ∃ q, p k = q := ⟨_, rfl⟩
   rw [hq] at HX
   have Hq := hide hq
   clear hd hE hq
   go_wp2_with fail
   refine HX.out.mono ?_
   rintro e w1 ⟨rfl, hE1⟩
   have HE1 := hide hE1
   clear hE1
   cases q
   ·go_wp2
    go_roundw
    case rel => exact ⟨k + 1, by omega, by go_num, fun j hj => by
           by_cases e : j = k
           ·subst e; exact Hq.out
           ·exact HD.out j (by omega), Ext.trans HE.out HE1.out⟩
    case measure => simp [intOf]; omega
   ·go_wp2
    go_ret
    exact ⟨⟨_, rfl, by rw [HR.out, anyB_yes hlt Hq.out]; exact decide_eq_true (Int.natCast_nonneg _)⟩, Ext.trans HE.out HE1.out⟩
  ·obtain rfl : k = n := by omega
   clear hd hE
   go_wp2
   go_ret
   exact ⟨⟨_, rfl, by rw [HR.out, anyB_no HD.out]; rfl⟩, HE.out⟩
set_option maxHeartbeats 800000 in
theorem conS_any (F : Nat) (c : Value) (hF : ∀ (args : Array Value) (w : World), (callFunc F args).run Tryz.prog w = .ok (.enter F args) w) (p : Nat → Bool) (a : Option Addr) (b off n cap : Nat) (v : Nat → Value) (w : World) (hs : VSeg w a b off n v) (hn : n ≤ 1048576)
  (HC : Hid (∀ i, i < n → ∀ W, Ext w W → Calls Tryz.prog F #[v i, c] W fun e w' => e = .returned (.bool (p i)) ∧ Ext W w')) :
  Calls Tryz.prog 140 #[.slice a n cap, .func (.func F) #[] #[c]] w fun e w' => e = .returned (.bool (anyB p n)) ∧ Ext w w' := by
 have HX := hide (idxS_any F c hF p a b off n cap v w hs hn HC)
 clear hs HC hF
 obtain ⟨R, hR⟩ : ∃ R, anyB p n = R := ⟨_, rfl⟩
 rw [hR] at HX ⊢
 clear hR
 go_enter Tryz.func140, Tryz.ntmps140
 go_wp2_with fail
 refine HX.out.mono ?_
 rintro e w1 ⟨⟨z, rfl, hz⟩, hE1⟩
 have HE1 := hide hE1
 clear hE1
 have Hz := hide hz
 clear hz
 go_wp2
 go_ret
 exact ⟨ret_bool Hz.out, HE1.out⟩
set_option maxHeartbeats 800000 in
theorem aokS1_any (G B : Nat) (hG : ∀ (args : Array Value) (w : World), (callFunc G args).run Tryz.prog w = .ok (.enter G args) w) (r : Bool) (v : Value) (w : World) (hc : w.cell? ⟨B, 0, none⟩ = some (.func (.func G) #[] #[]))
  (HC : Hid (Calls Tryz.prog G #[v] w fun e w' => e = .returned (.bool r) ∧ Ext w w')) :
  Calls Tryz.prog 139 #[v, .pointer (some ⟨B, 0, none⟩)] w fun e w' => e = .returned (.bool (!r)) ∧ Ext w w' := by
 go_enter Tryz.func139, Tryz.ntmps139
 go_wp2_with fail
 refine HC.out.mono ?_
 rintro e w1 ⟨rfl, hE1⟩
 have HE1 := hide hE1
 clear hE1
 go_wp2
 go_ret
 exact ⟨rfl, HE1.out⟩
set_option maxHeartbeats 1600000 in
theorem aokS_any (G : Nat) (hG : ∀ (args : Array Value) (w : World), (callFunc G args).run Tryz.prog w = .ok (.enter G args) w) (p : Nat → Bool) (most : Nat) (a : Option Addr) (b off n cap : Nat) (v : Nat → Value) (w : World) (hs : VSeg w a b off n v) (hn : n ≤ 1048576) (hm : most ≤ 1048576)
  (HC : Hid (∀ i, i < n → ∀ W, Ext w W → Calls Tryz.prog G #[v i] W fun e w' => e = .returned (.bool (p i)) ∧ Ext W w')) :
  Calls Tryz.prog 117 #[.slice a n cap, .int .i64 (most : Int), .func (.func G) #[] #[]] w fun e w' => e = .returned (.bool (decide (n ≤ most) && allB p n)) ∧ Ext w w' := by
 obtain ⟨V, hV⟩ : ∃ V, w.alloc (.cells #[.func (.func G) #[] #[]] 65) = V := ⟨_, rfl⟩
 obtain ⟨B0, hE, hl⟩ := box1 w [.func (.func G) #[] #[]] 65 (w1 := V) (by rw [← hV]; exact Ext.refl _)
 have HB := hide B0
 have HE := hide hE
 have HX := hide (conS_any 139 (.pointer (some ⟨w.heap.size, 0, none⟩)) (fun _ _ => by kernel_rfl) (fun i => !p i) a b off n cap v V (hs.of_all hE) hn
  (hide fun i hi W hW => aokS1_any G w.heap.size hG (p i) (v i) W ((Blk.ext HB.out hW (by omega)) 0 _ rfl).1 (hide (HC.out i hi W (Ext.trans hE hW)))))
 have HR : Hid (allB p n = !anyB (fun i => !p i) n) := rfl
 rw [HR.out]
 generalize anyB (fun i => !p i) n = R at HX ⊢
 clear B0 hE hs hl HR HC hG
 by_cases h : n ≤ most
 ·have h1 : (n : Int) ≤ (most : Int) := by omega
  rw [decide_eq_true h, Bool.true_and]
  clear h
  go_enter Tryz.func117, Tryz.ntmps117
  go_wp2_with fail
  refine HX.out.mono ?_
  rintro e w1 ⟨rfl, hE1⟩
  have HE1 := hide hE1
  clear hE1
  go_wp2
  go_ret
  exact ⟨rfl, Ext.trans HE.out HE1.out⟩
 ·have h1 : ¬ (n : Int) ≤ (most : Int) := by omega
  rw [decide_eq_false h, Bool.false_and]
  clear h
  go_enter Tryz.func117, Tryz.ntmps117
  go_wp2
  go_ret
  exact ⟨rfl, HE.out⟩
set_option maxHeartbeats 1600000 in
theorem idxI_any (F : Nat) (c : Value) (hF : ∀ (args : Array Value) (w : World), (callFunc F args).run Tryz.prog w = .ok (.enter F args) w) (p : Nat → Bool) (a : Option Addr) (b off n cap : Nat) (v : Nat → Value) (w : World) (hs : VSeg w a b off n v) (hn : n ≤ 1048576)
  (HC : Hid (∀ i, i < n → ∀ W, Ext w W → Calls Tryz.prog F #[v i, c] W fun e w' => e = .returned (.bool (p i)) ∧ Ext W w')) :
  Calls Tryz.prog 143 #[.slice a n cap, .func (.func F) #[] #[c]] w fun e w' => IdxQ (anyB p n) e ∧ Ext w w' := by
 have Hs := hide hs
 obtain ⟨R, hR⟩ : ∃ R, R = anyB p n := ⟨_, rfl⟩
 rw [← hR]
 have HR := hide hR
 clear hs hR
 go_enter Tryz.func143, Tryz.ntmps143
 go_wp2
 go_loopw [8] (fun i wr => ∃ k : Nat, k ≤ n ∧ i = .int .i64 (k : Int) ∧ (∀ j, j < k → p j = false) ∧ Ext w wr) (fun i _ => n - (intOf i).toNat)
 case atStart => exact ⟨0, Nat.zero_le _, rfl, fun j hj => absurd hj (Nat.not_lt_zero _), Ext.refl _⟩
 case round =>
  obtain ⟨k, hk, rfl, hd, hE⟩ := hrel
  have HD := hide hd
  have HE := hide hE
  by_cases hlt : k < n
  ·obtain rfl := Hs.out.at' (by omega)
   have c1 := (Hs.out.of_all hE).cell k hlt
   have hkn : (k : Int) < (n : Int) := by omega
   have HX := hide (HC.out k hlt _ hE)
   obtain ⟨q, hq⟩ : ∃ q, p k = q := ⟨_, rfl⟩
   rw [hq] at HX
   have Hq := hide hq
   clear hd hE hq
   go_wp2_with fail
   refine HX.out.mono ?_
   rintro e w1 ⟨rfl, hE1⟩
   have HE1 := hide hE1
   clear hE1
   cases q
   ·go_wp2
    go_roundw
    case rel => exact ⟨k + 1, by omega, by go_num, fun j hj => by
           by_cases e : j = k
           ·subst e; exact Hq.out
           ·exact HD.out j (by omega), Ext.trans HE.out HE1.out⟩
    case measure => simp [intOf]; omega
   ·go_wp2
    go_ret
    exact ⟨⟨_, rfl, by rw [HR.out, anyB_yes hlt Hq.out]; exact decide_eq_true (Int.natCast_nonneg _)⟩, Ext.trans HE.out HE1.out⟩
  ·obtain rfl : k = n := by omega
   clear hd hE
   go_wp2
   go_ret
   exact ⟨⟨_, rfl, by rw [HR.out, anyB_no HD.out]; rfl⟩, HE.out⟩
set_option maxHeartbeats 800000 in
theorem conI_any (F : Nat) (c : Value) (hF : ∀ (args : Array Value) (w : World), (callFunc F args).run Tryz.prog w = .ok (.enter F args) w) (p : Nat → Bool) (a : Option Addr) (b off n cap : Nat) (v : Nat → Value) (w : World) (hs : VSeg w a b off n v) (hn : n ≤ 1048576)
  (HC : Hid (∀ i, i < n → ∀ W, Ext w W → Calls Tryz.prog F #[v i, c] W fun e w' => e = .returned (.bool (p i)) ∧ Ext W w')) :
  Calls Tryz.prog 122 #[.slice a n cap, .func (.func F) #[] #[c]] w fun e w' => e = .returned (.bool (anyB p n)) ∧ Ext w w' := by
 have HX := hide (idxI_any F c hF p a b off n cap v w hs hn HC)
 clear hs HC hF
 obtain ⟨R, hR⟩ : ∃ R, anyB p n = R := ⟨_, rfl⟩
 rw [hR] at HX ⊢
 clear hR
 go_enter Tryz.func122, Tryz.ntmps122
 go_wp2_with fail
 refine HX.out.mono ?_
 rintro e w1 ⟨⟨z, rfl, hz⟩, hE1⟩
 have HE1 := hide hE1
 clear hE1
 have Hz := hide hz
 clear hz
 go_wp2
 go_ret
 exact ⟨ret_bool Hz.out, HE1.out⟩
set_option maxHeartbeats 800000 in
theorem aokI1_any (G B : Nat) (hG : ∀ (args : Array Value) (w : World), (callFunc G args).run Tryz.prog w = .ok (.enter G args) w) (r : Bool) (v : Value) (w : World) (hc : w.cell? ⟨B, 0, none⟩ = some (.func (.func G) #[] #[]))
  (HC : Hid (Calls Tryz.prog G #[v] w fun e w' => e = .returned (.bool r) ∧ Ext w w')) :
  Calls Tryz.prog 121 #[v, .pointer (some ⟨B, 0, none⟩)] w fun e w' => e = .returned (.bool (!r)) ∧ Ext w w' := by
 go_enter Tryz.func121, Tryz.ntmps121
 go_wp2_with fail
 refine HC.out.mono ?_
 rintro e w1 ⟨rfl, hE1⟩
 have HE1 := hide hE1
 clear hE1
 go_wp2
 go_ret
 exact ⟨rfl, HE1.out⟩
set_option maxHeartbeats 1600000 in
theorem aokI_any (G : Nat) (hG : ∀ (args : Array Value) (w : World), (callFunc G args).run Tryz.prog w = .ok (.enter G args) w) (p : Nat → Bool) (most : Nat) (a : Option Addr) (b off n cap : Nat) (v : Nat → Value) (w : World) (hs : VSeg w a b off n v) (hn : n ≤ 1048576) (hm : most ≤ 1048576)
  (HC : Hid (∀ i, i < n → ∀ W, Ext w W → Calls Tryz.prog G #[v i] W fun e w' => e = .returned (.bool (p i)) ∧ Ext W w')) :
  Calls Tryz.prog 93 #[.slice a n cap, .int .i64 (most : Int), .func (.func G) #[] #[]] w fun e w' => e = .returned (.bool (decide (n ≤ most) && allB p n)) ∧ Ext w w' := by
 obtain ⟨V, hV⟩ : ∃ V, w.alloc (.cells #[.func (.func G) #[] #[]] 99) = V := ⟨_, rfl⟩
 obtain ⟨B0, hE, hl⟩ := box1 w [.func (.func G) #[] #[]] 99 (w1 := V) (by rw [← hV]; exact Ext.refl _)
 have HB := hide B0
 have HE := hide hE
 have HX := hide (conI_any 121 (.pointer (some ⟨w.heap.size, 0, none⟩)) (fun _ _ => by kernel_rfl) (fun i => !p i) a b off n cap v V (hs.of_all hE) hn
  (hide fun i hi W hW => aokI1_any G w.heap.size hG (p i) (v i) W ((Blk.ext HB.out hW (by omega)) 0 _ rfl).1 (hide (HC.out i hi W (Ext.trans hE hW)))))
 have HR : Hid (allB p n = !anyB (fun i => !p i) n) := rfl
 rw [HR.out]
 generalize anyB (fun i => !p i) n = R at HX ⊢
 clear B0 hE hs hl HR HC hG
 by_cases h : n ≤ most
 ·have h1 : (n : Int) ≤ (most : Int) := by omega
  rw [decide_eq_true h, Bool.true_and]
  clear h
  go_enter Tryz.func93, Tryz.ntmps93
  go_wp2_with fail
  refine HX.out.mono ?_
  rintro e w1 ⟨rfl, hE1⟩
  have HE1 := hide hE1
  clear hE1
  go_wp2
  go_ret
  exact ⟨rfl, Ext.trans HE.out HE1.out⟩
 ·have h1 : ¬ (n : Int) ≤ (most : Int) := by omega
  rw [decide_eq_false h, Bool.false_and]
  clear h
  go_enter Tryz.func93, Tryz.ntmps93
  go_wp2
  go_ret
  exact ⟨rfl, HE.out⟩
set_option maxHeartbeats 1600000 in
theorem idxB_any (F : Nat) (c : Value) (hF : ∀ (args : Array Value) (w : World), (callFunc F args).run Tryz.prog w = .ok (.enter F args) w) (p : Nat → Bool) (a : Option Addr) (b off n cap : Nat) (v : Nat → Value) (w : World) (hs : VSeg w a b off n v) (hn : n ≤ 1048576)
  (HC : Hid (∀ i, i < n → ∀ W, Ext w W → Calls Tryz.prog F #[v i, c] W fun e w' => e = .returned (.bool (p i)) ∧ Ext W w')) :
  Calls Tryz.prog 160 #[.slice a n cap, .func (.func F) #[] #[c]] w fun e w' => IdxQ (anyB p n) e ∧ Ext w w' := by
 have Hs := hide hs
 obtain ⟨R, hR⟩ : ∃ R, R = anyB p n := ⟨_, rfl⟩
 rw [← hR]
 have HR := hide hR
 clear hs hR
 go_enter Tryz.func160, Tryz.ntmps160
 go_wp2
 go_loopw [8] (fun i wr => ∃ k : Nat, k ≤ n ∧ i = .int .i64 (k : Int) ∧ (∀ j, j < k → p j = false) ∧ Ext w wr) (fun i _ => n - (intOf i).toNat)
 case atStart => exact ⟨0, Nat.zero_le _, rfl, fun j hj => absurd hj (Nat.not_lt_zero _), Ext.refl _⟩
 case round =>
  obtain ⟨k, hk, rfl, hd, hE⟩ := hrel
  have HD := hide hd
  have HE := hide hE
  by_cases hlt : k < n
  ·obtain rfl := Hs.out.at' (by omega)
   have c1 := (Hs.out.of_all hE).cell k hlt
   have hkn : (k : Int) < (n : Int) := by omega
   have HX := hide (HC.out k hlt _ hE)
   obtain ⟨q, hq⟩ : ∃ q, p k = q := ⟨_, rfl⟩
   rw [hq] at HX
   have Hq := hide hq
   clear hd hE hq
   go_wp2_with fail
   refine HX.out.mono ?_
   rintro e w1 ⟨rfl, hE1⟩
   have HE1 := hide hE1
   clear hE1
   cases q
   ·go_wp2
    go_roundw
    case rel => exact ⟨k + 1, by omega, by go_num, fun j hj => by
           by_cases e : j = k
           ·subst e; exact Hq.out
           ·exact HD.out j (by omega), Ext.trans HE.out HE1.out⟩
    case measure => simp [intOf]; omega
   ·go_wp2
    go_ret
    exact ⟨⟨_, rfl, by rw [HR.out, anyB_yes hlt Hq.out]; exact decide_eq_true (Int.natCast_nonneg _)⟩, Ext.trans HE.out HE1.out⟩
  ·obtain rfl : k = n := by omega
   clear hd hE
   go_wp2
   go_ret
   exact ⟨⟨_, rfl, by rw [HR.out, anyB_no HD.out]; rfl⟩, HE.out⟩
set_option maxHeartbeats 800000 in
theorem conB_any (F : Nat) (c : Value) (hF : ∀ (args : Array Value) (w : World), (callFunc F args).run Tryz.prog w = .ok (.enter F args) w) (p : Nat → Bool) (a : Option Addr) (b off n cap : Nat) (v : Nat → Value) (w : World) (hs : VSeg w a b off n v) (hn : n ≤ 1048576)
  (HC : Hid (∀ i, i < n → ∀ W, Ext w W → Calls Tryz.prog F #[v i, c] W fun e w' => e = .returned (.bool (p i)) ∧ Ext W w')) :
  Calls Tryz.prog 153 #[.slice a n cap, .func (.func F) #[] #[c]] w fun e w' => e = .returned (.bool (anyB p n)) ∧ Ext w w' := by
 have HX := hide (idxB_any F c hF p a b off n cap v w hs hn HC)
 clear hs HC hF
 obtain ⟨R, hR⟩ : ∃ R, anyB p n = R := ⟨_, rfl⟩
 rw [hR] at HX ⊢
 clear hR
 go_enter Tryz.func153, Tryz.ntmps153
 go_wp2_with fail
 refine HX.out.mono ?_
 rintro e w1 ⟨⟨z, rfl, hz⟩, hE1⟩
 have HE1 := hide hE1
 clear hE1
 have Hz := hide hz
 clear hz
 go_wp2
 go_ret
 exact ⟨ret_bool Hz.out, HE1.out⟩
set_option maxHeartbeats 800000 in
theorem aokB1_any (G B : Nat) (hG : ∀ (args : Array Value) (w : World), (callFunc G args).run Tryz.prog w = .ok (.enter G args) w) (r : Bool) (v : Value) (w : World) (hc : w.cell? ⟨B, 0, none⟩ = some (.func (.func G) #[] #[]))
  (HC : Hid (Calls Tryz.prog G #[v] w fun e w' => e = .returned (.bool r) ∧ Ext w w')) :
  Calls Tryz.prog 152 #[v, .pointer (some ⟨B, 0, none⟩)] w fun e w' => e = .returned (.bool (!r)) ∧ Ext w w' := by
 go_enter Tryz.func152, Tryz.ntmps152
 go_wp2_with fail
 refine HC.out.mono ?_
 rintro e w1 ⟨rfl, hE1⟩
 have HE1 := hide hE1
 clear hE1
 go_wp2
 go_ret
 exact ⟨rfl, HE1.out⟩
set_option maxHeartbeats 1600000 in
theorem aokB_any (G : Nat) (hG : ∀ (args : Array Value) (w : World), (callFunc G args).run Tryz.prog w = .ok (.enter G args) w) (p : Nat → Bool) (most : Nat) (a : Option Addr) (b off n cap : Nat) (v : Nat → Value) (w : World) (hs : VSeg w a b off n v) (hn : n ≤ 1048576) (hm : most ≤ 1048576)
  (HC : Hid (∀ i, i < n → ∀ W, Ext w W → Calls Tryz.prog G #[v i] W fun e w' => e = .returned (.bool (p i)) ∧ Ext W w')) :
  Calls Tryz.prog 141 #[.slice a n cap, .int .i64 (most : Int), .func (.func G) #[] #[]] w fun e w' => e = .returned (.bool (decide (n ≤ most) && allB p n)) ∧ Ext w w' := by
 obtain ⟨V, hV⟩ : ∃ V, w.alloc (.cells #[.func (.func G) #[] #[]] 194) = V := ⟨_, rfl⟩
 obtain ⟨B0, hE, hl⟩ := box1 w [.func (.func G) #[] #[]] 194 (w1 := V) (by rw [← hV]; exact Ext.refl _)
 have HB := hide B0
 have HE := hide hE
 have HX := hide (conB_any 152 (.pointer (some ⟨w.heap.size, 0, none⟩)) (fun _ _ => by kernel_rfl) (fun i => !p i) a b off n cap v V (hs.of_all hE) hn
  (hide fun i hi W hW => aokB1_any G w.heap.size hG (p i) (v i) W ((Blk.ext HB.out hW (by omega)) 0 _ rfl).1 (hide (HC.out i hi W (Ext.trans hE hW)))))
 have HR : Hid (allB p n = !anyB (fun i => !p i) n) := rfl
 rw [HR.out]
 generalize anyB (fun i => !p i) n = R at HX ⊢
 clear B0 hE hs hl HR HC hG
 by_cases h : n ≤ most
 ·have h1 : (n : Int) ≤ (most : Int) := by omega
  rw [decide_eq_true h, Bool.true_and]
  clear h
  go_enter Tryz.func141, Tryz.ntmps141
  go_wp2_with fail
  refine HX.out.mono ?_
  rintro e w1 ⟨rfl, hE1⟩
  have HE1 := hide hE1
  clear hE1
  go_wp2
  go_ret
  exact ⟨rfl, Ext.trans HE.out HE1.out⟩
 ·have h1 : ¬ (n : Int) ≤ (most : Int) := by omega
  rw [decide_eq_false h, Bool.false_and]
  clear h
  go_enter Tryz.func141, Tryz.ntmps141
  go_wp2
  go_ret
  exact ⟨rfl, HE.out⟩
end
end Go.Proofs.YtkogbinfhoiggaaGreatDoor
