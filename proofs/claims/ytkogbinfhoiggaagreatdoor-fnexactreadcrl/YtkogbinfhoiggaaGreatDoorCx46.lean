/- Lists as fields of a copy: one's own, and where they lie. Walks: marks in lists of strings, told exactly, and found again; a list of what is void marked and found again. The walk of the law FnExactReadCrl. A list of bytes that came in, opened. -/
import Derived.Test.YtkogbinfhoiggaaGreatDoorCx45
namespace Go.Proofs.YtkogbinfhoiggaaGreatDoor
set_option linter.unusedVariables false
set_option linter.unusedSimpArgs false
section
set_option maxRecDepth 100000
open Go.RowKit
theorem Own.of_blk {w w' : World} {a : Option Addr} {g off n : Nat} {f : Nat → Int} (h : Own w a g off n f) (e : 0 < n → w'.heap[g]? = w.heap[g]?) : Own w' a g off n f :=
 ⟨⟨h.at', fun i hi => (World.cell?_of_block (a := ⟨g, off + i, none⟩) (e (by omega))).trans (h.cell i hi)⟩, fun i hi => (World.frozen?_of_block (a := ⟨g, off + i, none⟩) (e (by omega))).trans (h.free i hi)⟩
theorem BOwn.of_blkO {w w' : World} {a : Option Addr} {g off n : Nat} {f : Nat → Int} (h : BOwn w a g off n f) (e : 0 < n → w'.heap[g]? = w.heap[g]?) : BOwn w' a g off n f :=
 ⟨⟨h.at', fun i hi => (World.cell?_of_block (a := ⟨g, off + i, none⟩) (e (by omega))).trans (h.cell i hi)⟩, fun i hi => (World.frozen?_of_block (a := ⟨g, off + i, none⟩) (e (by omega))).trans (h.free i hi)⟩
end
section
open Go.RowKit
def dgm (r : Int) : ByteArray := strOfNums (nums (fun _ => r) 1)
def mtD : Nat → Nat → ByteArray → ByteArray
 | 0, _, s => s
 | c + 1, j, s => if j = 0 then s else mtD c (j / 10) (dgm (48 + ((j % 10 : Nat) : Int)) ++ s)
def mtx (k : Nat) : ByteArray := if k = 0 then ⟨#[109, 48]⟩ else ⟨#[109]⟩ ++ mtD k k ⟨#[]⟩
theorem mtD_zero (c : Nat) (s : ByteArray) : mtD c 0 s = s := by cases c <;> rfl
theorem mtD_step {c j : Nat} (s : ByteArray) (h0 : 0 < j) : mtD (c + 1) j s = mtD c (j / 10) (dgm (48 + ((j % 10 : Nat) : Int)) ++ s) := by rw [mtD, if_neg (by omega)]
theorem conv1X (w : World) (x : Int) : (convert 22 9 (.slice (some ⟨w.heap.size, 0, none⟩) 1 1)).run Tryz.prog (w.alloc (.cells #[.int .u8 x] 5)) = .ok (.string (dgm x)) (w.alloc (.cells #[.int .u8 x] 5)) :=
 conv_seg (cap := 1) (bseg_new1 w x)
set_option maxRecDepth 100000 in
set_option maxHeartbeats 1600000 in
theorem markTextX_any (n : Nat) (k1 : n ≤ 1099511627776) (w : World) : Calls Tryz.prog 60 #[.int .i64 (n : Int)] w fun e w' => e = .returned (.string (mtx n)) ∧ Ext w w' := by
 by_cases h0 : n = 0
 ·subst h0
  go_enter Tryz.func60, Tryz.ntmps60
  go_wp2
  go_ret
  exact ⟨rfl, Ext.refl _⟩
 ·have g0 : ¬ ((n : Int) ≤ 0) := by omega
  have H1 : Hid (n ≤ 1099511627776) := by show _ ≤ _; omega
  have H0 := hide h0
  clear k1 h0
  go_enter Tryz.func60, Tryz.ntmps60
  go_wp2
  clear g0
  go_loopw [0, 3] (fun t v wr => ∃ (cc j : Nat) (s : ByteArray), t = .int .i64 (j : Int) ∧ v = .string s ∧ s.size + j ≤ n ∧ j ≤ cc ∧ Hid (mtD cc j s = mtD n n ⟨#[]⟩) ∧ Ext w wr) (fun t _ _ => (intOf t).toNat)
  case atStart => exact ⟨n, n, ⟨#[]⟩, rfl, rfl, by show 0 + n ≤ n; omega, Nat.le_refl _, rfl, Ext.refl _⟩
  case round =>
   obtain ⟨cc, j, s, rfl, rfl, hj, hcc, hD, hE⟩ := hrel
   have HJ := hide hj
   have HE := hide hE
   have HC := hide hcc
   clear hj hE hcc
   by_cases hp : 0 < j
   ·have g1 : (0 : Int) < (j : Int) := by omega
    have HN := H1.out
    have HJ2 := HJ.out
    obtain ⟨c1, rfl⟩ : ∃ c1, cc = c1 + 1 := ⟨cc - 1, by have := HC.out; omega⟩
    obtain ⟨q, r, hq, hes⟩ := mt_nums (j := j) (by omega) (by omega)
    have Hes := hide hes
    clear hes
    have hqe : j / 10 = q := by have := Hes.out.1; rw [Int.tdiv_eq_ediv_of_nonneg (Int.natCast_nonneg _)] at this; omega
    have hre : j % 10 = r := by have := Hes.out.2.1; rw [Int.tmod_eq_emod_of_nonneg (Int.natCast_nonneg _)] at this; omega
    have HD : Hid (mtD c1 q (dgm (48 + (r : Int)) ++ s) = mtD n n ⟨#[]⟩ ∧ q ≤ c1) := hide ⟨by rw [← hD.out, mtD_step s hp, hqe, hre], by have := HC.out; omega⟩
    clear hqe hre hD HC
    have hcv := conv1X wr (48 + (r : Int))
    have Hsz : Hid ((dgm (48 + (r : Int))).size = 1) := hide (str1_size _)
    generalize dgm (48 + (r : Int)) = s1 at *
    have hcat : ∀ W, (Op.stringOp .add s1 s).run Tryz.prog W = .ok (.string (s1 ++ s)) W := fun W => run_string_add_sum W s1 s (by have := Hsz.out; omega)
    have Hcs : Hid ((s1 ++ s).size + q ≤ n ∧ q < j) := by
     have h1 := cat_size s1 s
     have := Hsz.out
     exact ⟨by omega, hq⟩
    have HX : Hid (Ext wr (wr.alloc (.cells #[.int .u8 (48 + (r : Int))] 5))) := hide (Ext.alloc _ _)
    generalize s1 ++ s = s2 at *
    clear hq HN HJ2 hp
    obtain ⟨e1, e2, e3, e4, e5, e6, e7, e8, e9⟩ := Hes.out
    clear Hes
    go_wp2
    go_roundw
    case rel => exact ⟨c1, q, s2, rfl, rfl, Hcs.out.1, HD.out.2, HD.out.1, HE.out.trans HX.out⟩
    case measure => clear e1 e2 e3 e4 e5 e6 e7 e8 e9; have := Hcs.out.2; simp [intOf]; omega
   ·obtain rfl : j = 0 := by omega
    have HN := H1.out
    have HJ2 := HJ.out
    have hcat : ∀ W, (Op.stringOp .add (⟨#[109]⟩ : ByteArray) s).run Tryz.prog W = .ok (.string ((⟨#[109]⟩ : ByteArray) ++ s)) W := fun W => run_string_add_sum W _ s (by show 1 + s.size ≤ 9223372036854775807; omega)
    have HF : Hid ((⟨#[109]⟩ : ByteArray) ++ s = mtx n) := hide (by unfold mtx; rw [if_neg H0.out, ← hD.out, mtD_zero])
    generalize (⟨#[109]⟩ : ByteArray) ++ s = s2 at *
    clear HN HJ2 hp hD
    go_wp2
    go_ret
    exact ⟨congrArg (fun q => Ending.returned (.string q)) HF.out, HE.out⟩
set_option maxHeartbeats 1600000 in
theorem markStringSX_any (a : Option Addr) (g off n cap : Nat) (w : World) (hs : SAny w a g off n) (hn : n ≤ 1048576) :
  Calls Tryz.prog 31 #[.slice a n cap, .int .i64 1] w fun e w' => e = .returned (.int .i64 (1 + n)) ∧ SSeg w' a g off n (fun i => mtx (1 + i)) ∧ Mkw g (g + 1) w w' := by
 have HM : Hid (∀ (j : Nat) (W : World), j ≤ n → Calls Tryz.prog 60 #[.int .i64 (1 + (j : Int))] W fun e w' => e = .returned (.string (mtx (1 + j))) ∧ Ext W w') := fun j W hj => by
  have := markTextX_any (1 + j) (by omega) W
  rwa [show ((1 + j : Nat) : Int) = 1 + (j : Int) by omega] at this
 have Hat := hide hs.at'
 have HS := hide hs
 clear hs
 go_enter Tryz.func31, Tryz.ntmps31
 go_wp2
 go_loopw [1, 5] (fun t i wr => ∃ j : Nat, j ≤ n ∧ i = .int .i64 j ∧ t = .int .i64 (1 + j) ∧ SAny wr a g off n ∧ (∀ i, i < j → wr.cell? ⟨g, off + i, none⟩ = some (.string (mtx (1 + i)))) ∧ Mkw g (g + 1) w wr) (fun _ i _ => n - (intOf i).toNat)
 case atStart => exact ⟨0, Nat.zero_le _, rfl, by go_num, HS.out, fun i hi => absurd hi (Nat.not_lt_zero _), Mkw.refl _ _ _⟩
 case round =>
  clear HS
  obtain ⟨j, hj, rfl, rfl, hO, hX, hT⟩ := hrel
  have HO := hide hO
  have HX := hide hX
  have HT := hide hT
  clear hO hT hX
  by_cases hlt : j < n
  ·obtain rfl := Hat.out (by omega)
   have hjn : (j : Int) < (n : Int) := by omega
   have HMj := hide (HM.out j wr hj)
   obtain ⟨s, hse⟩ : ∃ s, mtx (1 + j) = s := ⟨_, rfl⟩
   rw [hse] at HMj
   have Hse := hide hse
   clear hse
   go_wp2_with fail
   refine HMj.out.mono ?_
   rintro e w1 ⟨rfl, hE⟩
   have hO1 := HO.out.of_all hE
   obtain ⟨s0, hc⟩ := hO1.cell j hlt
   have hf := hO1.free j hlt
   have HO' := hide (hO1.set hlt s)
   have HX' : Hid (∀ i, i < j + 1 → (w1.setCell ⟨g, off + j, none⟩ (.string s)).cell? ⟨g, off + i, none⟩ = some (.string (mtx (1 + i)))) := hide (fun i hi => by
    by_cases e : i = j
    ·subst e
     rw [Hse.out]
     exact World.cell?_setCell_same _ _ _ hc
    ·rw [World.cell?_setCell_other _ _ _ _ (fun h => by have := congrArg Addr.off h; simp at this; omega)]
     have h2 := HX.out i (by omega)
     exact (Below.cell hE (p := ⟨g, off + i, none⟩) (World.block_lt_of_cell? _ _ h2)).trans h2)
   have HT' := hide ((HT.out.trans (Mkw.of_ext hE)).set (off + j) (.string s) (Nat.le_refl _) (Nat.lt_succ_self _))
   clear hO1 hE HMj HO HT HX
   go_wp2
   go_roundw
   case rel => exact ⟨j + 1, by omega, by go_num, by go_num, HO'.out, HX'.out, HT'.out⟩
   case measure => simp [intOf]; omega
  ·obtain rfl : j = n := by omega
   go_wp2
   go_ret
   exact ⟨rfl, ⟨Hat.out, HX.out⟩, HT.out⟩
set_option maxHeartbeats 1600000 in
theorem heldStringS_any (a : Option Addr) (g off n cap : Nat) (w : World) (hs : SSeg w a g off n (fun i => mtx (1 + i))) (hn : n ≤ 1048576) :
  Calls Tryz.prog 33 #[.slice a n cap, .int .i64 1] w fun e w' => e = .returned (.int .i64 (1 + n)) ∧ Ext w w' := by
 have HM : Hid (∀ (j : Nat) (W : World), j ≤ n → Calls Tryz.prog 60 #[.int .i64 (1 + (j : Int))] W fun e w' => e = .returned (.string (mtx (1 + j))) ∧ Ext W w') := fun j W hj => by
  have := markTextX_any (1 + j) (by omega) W
  rwa [show ((1 + j : Nat) : Int) = 1 + (j : Int) by omega] at this
 have HS := hide hs
 clear hs
 go_enter Tryz.func33, Tryz.ntmps33
 go_wp2
 go_loopw [1, 5] (fun t i wr => ∃ j : Nat, j ≤ n ∧ i = .int .i64 j ∧ t = .int .i64 (1 + j) ∧ Ext w wr) (fun _ i _ => n - (intOf i).toNat)
 case atStart => exact ⟨0, Nat.zero_le _, rfl, by go_num, Ext.refl _⟩
 case round =>
  obtain ⟨j, hj, rfl, rfl, hE⟩ := hrel
  have HE := hide hE
  by_cases hlt : j < n
  ·obtain rfl := HS.out.at' (by omega)
   have hjn : (j : Int) < (n : Int) := by omega
   have c1 := (HS.out.of_all hE).cell j hlt
   have HMj := hide (fun W => HM.out j W hj)
   obtain ⟨s, hse⟩ : ∃ s, mtx (1 + j) = s := ⟨_, rfl⟩
   rw [hse] at HMj
   simp only [hse] at c1
   have d1 := fun p : ReC Nox wr => cell_reC c1 (fun h => h) p
   have hq : (s.toList == s.toList) = true := eqS_refl s
   clear hse hE c1
   go_wp2_with fail
   refine anyK_begin Nox 7 rfl (by kernel_rfl) ?_
   refine anyK_take 0 5 2 rfl (by decide) (by kernel_rfl) (fun _ _ d _ _ h => by cases d <;> exact h) ?_
   repeat (refine headC_step (fun K hK => ?_); go_simp; refine hK _ ?_; clear hK K)
   refine headC_nil ?_
   clear d1
   refine anyK_one 5 (by kernel_rfl) ?_
   refine stepK_run rfl ?_
   intro w3 h3 K2 hK2
   go_simp
   refine (HMj.out w3).mono ?_
   rintro e w4 ⟨rfl, hE4⟩
   have HE4 := hide (h3.trans hE4)
   try go_simp
   refine hK2 _ _ (grw_nox HE4.out) ?_
   clear hK2 K2 h3 hE4
   refine anyK_take 6 1 0 rfl (by decide) (by kernel_rfl) (fun _ _ d _ _ h => by cases d <;> exact h) ?_
   repeat (refine headC_step (fun K hK => ?_); go_simp; refine hK _ ?_; clear hK K)
   refine headC_nil ?_
   refine anyK_done (by kernel_rfl) ?_ 0
   intro w7 h7
   have HE7 := hide (HE.out.trans (HE4.out.trans h7))
   clear h7
   go_wp2
   go_roundw
   case rel => exact ⟨j + 1, by omega, by go_num, by go_num, HE7.out⟩
   case measure => simp [intOf]; omega
  ·obtain rfl : j = n := by omega
   go_wp2
   go_ret
   exact ⟨rfl, HE.out⟩
structure ClQ (B : Nat) (w : World) (c : Cl) (m : ClPl) : Prop where
 i : SSeg w m.i.ad m.i.b m.i.off c.ni c.fi
 ia : SAny w m.i.ad m.i.b m.i.off c.ni
 v : Own w m.v.ad m.v.b m.v.off c.nv c.fv
 g : BOwn w m.g.ad m.g.b m.g.off c.ng c.fg
 b0 : 0 < c.ni → B ≤ m.i.b
 b1 : 0 < c.nv → B ≤ m.v.b
 b2 : 0 < c.ng → B ≤ m.g.b
 d0 : 0 < c.ni → 0 < c.nv → m.i.b ≠ m.v.b
 d1 : 0 < c.ni → 0 < c.ng → m.i.b ≠ m.g.b
 d2 : 0 < c.nv → 0 < c.ng → m.v.b ≠ m.g.b
theorem ClQ.in' {B : Nat} {w : World} {c : Cl} {m : ClPl} (h : ClQ B w c m) : ClIn w c m := ⟨h.i, h.v.toSeg, h.g.toBSeg⟩
theorem ClQ.blk {B : Nat} {w w' : World} {c : Cl} {m : ClPl} (h : ClQ B w c m) (e : ∀ q, B ≤ q → q < w.heap.size → w'.heap[q]? = w.heap[q]?) : ClQ B w' c m :=
 ⟨⟨h.i.at', fun j hj => (World.cell?_of_block (a := ⟨m.i.b, m.i.off + j, none⟩) (e _ (h.b0 (by omega)) (World.block_lt_of_cell? _ _ (h.i.cell j hj)))).trans (h.i.cell j hj)⟩,
  h.ia.of_blk (fun h0 => e _ (h.b0 h0) (h.ia.lt h0)),
  Own.of_blk h.v (fun h0 => e _ (h.b1 h0) (h.v.lt h0)), BOwn.blkR h.g (fun h0 => e _ (h.b2 h0) (h.g.lt h0)), h.b0, h.b1, h.b2, h.d0, h.d1, h.d2⟩
theorem ClQ.ext {B : Nat} {w w' : World} {c : Cl} {m : ClPl} (h : ClQ B w c m) (e : Ext w w') : ClQ B w' c m := h.blk (fun q _ hq => Below.block e q hq)
structure ClMd (w : World) (c : Cl) (m : ClPl) : Prop where
 i : SSeg w m.i.ad m.i.b m.i.off c.ni (fun i => mtx (1 + i))
 v : Seg w m.v.ad m.v.b m.v.off c.nv (fun i => 1 + (c.ni : Int) + i)
 g : BSeg w m.g.ad m.g.b m.g.off c.ng (fun i => (1 + (c.ni : Int) + c.nv + i) % 256)
theorem ClMd.ext {w w' : World} {c : Cl} {m : ClPl} (h : ClMd w c m) (e : Ext w w') : ClMd w' c m := ⟨h.i.of_all e, h.v.of_all e, h.g.of_all e⟩
theorem SSeg.blkS {w w' : World} {a : Option Addr} {b off n : Nat} {f : Nat → ByteArray} (h : SSeg w a b off n f) (e : 0 < n → w'.heap[b]? = w.heap[b]?) : SSeg w' a b off n f := ⟨h.at', fun j hj => (World.cell?_of_block (a := ⟨b, off + j, none⟩) (e (by omega))).trans (h.cell j hj)⟩
structure ClV (w : World) (c : Cl) (m : ClPl) : Prop where
 ia : SAny w m.i.ad m.i.b m.i.off c.ni
 v : Own w m.v.ad m.v.b m.v.off c.nv c.fv
 g : BOwn w m.g.ad m.g.b m.g.off c.ng c.fg
 b0 : m.i.b ≠ w.heap.size
 b1 : m.v.b ≠ w.heap.size
 b2 : m.g.b ≠ w.heap.size
 d0 : m.i.b ≠ m.v.b
 d1 : m.i.b ≠ m.g.b
 d2 : m.v.b ≠ m.g.b
structure Mk3 (a b c : Nat) (w w' : World) : Prop where
 os : w'.os = w.os
 tape : w'.tape = w.tape
 output : w'.output = w.output
 size : w.heap.size ≤ w'.heap.size
 same : ∀ q, q < w.heap.size → q ≠ a → q ≠ b → q ≠ c → w'.heap[q]? = w.heap[q]?
theorem ClQ.norm {B : Nat} {w : World} {c : Cl} {m : ClPl} (h : ClQ B w c m) : ∃ m', clL c m = clL c m' ∧ ClV w c m' ∧ (if 0 < c.ni then m'.i = m.i else w.heap.size < m'.i.b) ∧ (if 0 < c.nv then m'.v = m.v else w.heap.size < m'.v.b) ∧ (if 0 < c.ng then m'.g = m.g else w.heap.size < m'.g.b) := by
 obtain ⟨⟨ia, ib, io, ic⟩, ⟨va, vb, vo, vc⟩, ⟨ga, gb, go, gc⟩⟩ := m
 refine ⟨⟨⟨ia, if 0 < c.ni then ib else w.heap.size + 1, io, ic⟩, ⟨va, if 0 < c.nv then vb else w.heap.size + 2, vo, vc⟩, ⟨ga, if 0 < c.ng then gb else w.heap.size + 3, go, gc⟩⟩, rfl, ?_⟩
 have l0 := fun h0 => h.ia.lt h0
 have l1 := fun h0 => h.v.lt h0
 have l2 := fun h0 => h.g.lt h0
 have d0 := h.d0; have d1 := h.d1; have d2 := h.d2
 have hi := h.ia; have hv := h.v; have hg := h.g
 simp only at l0 l1 l2 d0 d1 d2 hi hv hg
 by_cases n0 : 0 < c.ni <;> by_cases n1 : 0 < c.nv <;> by_cases n2 : 0 < c.ng <;>
  (simp only [n0, n1, n2, if_true, if_false, true_imp_iff] at l0 l1 l2 d0 d1 d2 ⊢
   refine ⟨⟨?_, ?_, ?_, by simp only; omega, by simp only; omega, by simp only; omega, by simp only; omega, by simp only; omega, by simp only; omega⟩, by first | trivial | omega, by first | trivial | omega, by first | trivial | omega⟩
   ·first | exact hi | exact ⟨fun k => absurd k n0, fun i k => absurd (show 0 < c.ni by omega) n0, fun i k => absurd (show 0 < c.ni by omega) n0⟩
   ·first | exact hv | exact ⟨⟨fun k => absurd k n1, fun i k => absurd (show 0 < c.nv by omega) n1⟩, fun i k => absurd (show 0 < c.nv by omega) n1⟩
   ·first | exact hg | exact ⟨⟨fun k => absurd k n2, fun i k => absurd (show 0 < c.ng by omega) n2⟩, fun i k => absurd (show 0 < c.ng by omega) n2⟩)
set_option maxHeartbeats 3200000 in
theorem markCrlX_any (c : Cl) (m : ClPl) (w : World) (h : ClV w c m) (hS : ClSm c 1048576) :
  Calls Tryz.prog 10 #[.agg (clL c m).toArray, .int .i64 1] w fun e w' => e = .returned (.int .i64 (1 + (c.ni : Int) + c.nv + c.ng)) ∧ ClMd w' c m ∧ Mk3 m.i.b m.v.b m.g.b w w' := by
 obtain ⟨V, hV⟩ : ∃ V, w.alloc (.cells (clL c m).toArray 26) = V := ⟨_, rfl⟩
 obtain ⟨B0, hE, -⟩ := box1 w (clL c m) 26 (w1 := V) (by rw [← hV]; exact Ext.refl _)
 have hlt := Blk.lt B0 (by simp [clL])
 have HM1 := hide (markStringSX_any m.i.ad m.i.b m.i.off c.ni m.i.cap V (h.ia.of_all hE) hS.i)
 have HM2 : Hid (∀ W, Mkw m.i.b (m.i.b + 1) V W → Calls Tryz.prog 32 #[.slice m.v.ad c.nv m.v.cap, .int .i64 (1 + (c.ni : Int))] W fun e w' => e = .returned (.int .i64 (1 + (c.ni : Int) + c.nv)) ∧ Own w' m.v.ad m.v.b m.v.off c.nv (fun i => 1 + (c.ni : Int) + i) ∧ Touch m.v.b W w') := fun W hW => markIntS_any m.v.ad m.v.b m.v.off c.nv m.v.cap c.fv (1 + (c.ni : Int)) W (Own.of_blk (h.v.of_all hE) (fun h0 => hW.same _ ((h.v.of_all hE).lt h0) (by have := h.d0; omega))) hS.v (by omega) (by have := hS.i; omega)
 have HM3 : Hid (∀ W W2, Mkw m.i.b (m.i.b + 1) V W → Touch m.v.b W W2 → Calls Tryz.prog 9 #[.slice m.g.ad c.ng m.g.cap, .int .i64 (1 + (c.ni : Int) + c.nv)] W2 fun e w' => e = .returned (.int .i64 (1 + (c.ni : Int) + c.nv + c.ng)) ∧ BOwn w' m.g.ad m.g.b m.g.off c.ng (fun i => (1 + (c.ni : Int) + c.nv + i) % 256) ∧ Touch m.g.b W2 w') := fun W W2 hW hW2 => markByteS_any m.g.ad m.g.b m.g.off c.ng m.g.cap c.fg (1 + (c.ni : Int) + c.nv) W2 (BOwn.of_blkO (h.g.of_all hE) (fun h0 => ((hW2.grown.block _ (Nat.lt_of_lt_of_le ((h.g.of_all hE).lt h0) hW.size) (by have := h.d2; simp; omega)).trans (hW.same _ ((h.g.of_all hE).lt h0) (by have := h.d1; omega))))) hS.g (by omega) (by have := hS.i; have := hS.v; omega)
 have HBk := hide B0
 have HlV := hide hlt
 have HE := hide hE
 have HB := hide (And.intro h.b0 (And.intro h.b1 h.b2))
 have HD := hide (And.intro h.d0 (And.intro h.d1 h.d2))
 clear h hS hE B0 hlt
 have c0 := (HBk.out 0 _ rfl).1
 go_enter Tryz.func10, Tryz.ntmps10
 go_wp2_with fail
 refine HM1.out.mono ?_
 rintro e w1 ⟨rfl, hs1, hm1⟩
 have Hm1 := hide hm1
 have Hs1 := hide hs1
 replace HBk := hide (HBk.out.of_heap (hm1.same _ HlV.out (by have := HB.out.1; omega)))
 clear hm1 hs1 c0 HM1
 have c4 := (HBk.out 4 _ rfl).1
 go_wp2_with fail
 refine (HM2.out _ Hm1.out).mono ?_
 rintro e w2 ⟨rfl, hs2, ht2⟩
 have Ht2 := hide ht2
 have Hs2 := hide hs2
 replace HBk := hide (HBk.out.of_heap (ht2.grown.block _ (Nat.lt_of_lt_of_le HlV.out Hm1.out.size) (by have := HB.out.2.1; simp; omega)))
 clear ht2 hs2 c4 HM2
 have c5 := (HBk.out 5 _ rfl).1
 go_wp2_with fail
 refine (HM3.out _ _ Hm1.out Ht2.out).mono ?_
 rintro e w3 ⟨rfl, hs3, ht3⟩
 have Ht3 := hide ht3
 have Hs3 := hide hs3
 clear ht3 hs3 c5 HM3
 go_wp2
 go_ret
 refine ⟨rfl, ⟨?_, ?_, Hs3.out.toBSeg⟩, ?_⟩
 ·refine (Hs1.out.blkS (fun h0 => Ht2.out.grown.block _ (World.block_lt_of_cell? _ _ (Hs1.out.cell 0 h0)) (by have := HD.out.1; simp; omega))).blkS (fun h0 => Ht3.out.grown.block _ (Nat.lt_of_lt_of_le (World.block_lt_of_cell? _ _ (Hs1.out.cell 0 h0)) Ht2.out.grown.size) (by have := HD.out.2.1; simp; omega))
 ·exact (Own.of_blk Hs2.out (fun h0 => Ht3.out.grown.block _ (Hs2.out.lt h0) (by have := HD.out.2.2; simp; omega))).toSeg
 ·refine ⟨Ht3.out.grown.os.trans (Ht2.out.grown.os.trans (Hm1.out.os.trans HE.out.os)), Ht3.out.grown.tape.trans (Ht2.out.grown.tape.trans (Hm1.out.tape.trans HE.out.tape)), Ht3.out.grown.output.trans (Ht2.out.grown.output.trans (Hm1.out.output.trans HE.out.output)), ?_, fun q hq h1 h2 h3 => ?_⟩
  ·exact Nat.le_trans (Below.size HE.out) (Nat.le_trans Hm1.out.size (Nat.le_trans Ht2.out.grown.size Ht3.out.grown.size))
  ·have q1 := Nat.lt_of_lt_of_le hq (Below.size HE.out)
   have q2 := Nat.lt_of_lt_of_le q1 Hm1.out.size
   rw [Ht3.out.grown.block q (Nat.lt_of_lt_of_le q2 Ht2.out.grown.size) (by simp; exact h3), Ht2.out.grown.block q q2 (by simp; exact h2), Hm1.out.same q q1 (by omega), Below.block HE.out q hq]
theorem markCrlQ_any (B T : Nat) (c : Cl) (m : ClPl) (w : World) (h : ClQ B w c m) (t0 : 0 < c.ni → m.i.b < T) (t1 : 0 < c.nv → m.v.b < T) (t2 : 0 < c.ng → m.g.b < T) (hS : ClSm c 1048576) :
  Calls Tryz.prog 10 #[.agg (clL c m).toArray, .int .i64 1] w fun e w' => e = .returned (.int .i64 (1 + (c.ni : Int) + c.nv + c.ng)) ∧ ClMd w' c m ∧ Mkw B T w w' := by
 obtain ⟨m', hm, hV, e0, e1, e2⟩ := h.norm
 rw [hm]
 refine (markCrlX_any c m' w hV hS).mono ?_
 rintro e w' ⟨rfl, hM, hK⟩
 refine ⟨rfl, ⟨?_, ?_, ?_⟩, hK.os, hK.tape, hK.output, hK.size, fun q hq hqq => hK.same q hq ?_ ?_ ?_⟩
 ·by_cases n0 : 0 < c.ni
  ·rw [if_pos n0] at e0; rw [← e0]; exact hM.i
  ·exact ⟨fun k => absurd k n0, fun i k => absurd (show 0 < c.ni by omega) n0⟩
 ·by_cases n0 : 0 < c.nv
  ·rw [if_pos n0] at e1; rw [← e1]; exact hM.v
  ·exact ⟨fun k => absurd k n0, fun i k => absurd (show 0 < c.nv by omega) n0⟩
 ·by_cases n0 : 0 < c.ng
  ·rw [if_pos n0] at e2; rw [← e2]; exact hM.g
  ·exact ⟨fun k => absurd k n0, fun i k => absurd (show 0 < c.ng by omega) n0⟩
 ·by_cases n0 : 0 < c.ni
  ·rw [if_pos n0] at e0; rw [e0]; have := t0 n0; have := h.b0 n0; omega
  ·rw [if_neg n0] at e0; omega
 ·by_cases n0 : 0 < c.nv
  ·rw [if_pos n0] at e1; rw [e1]; have := t1 n0; have := h.b1 n0; omega
  ·rw [if_neg n0] at e1; omega
 ·by_cases n0 : 0 < c.ng
  ·rw [if_pos n0] at e2; rw [e2]; have := t2 n0; have := h.b2 n0; omega
  ·rw [if_neg n0] at e2; omega
set_option maxHeartbeats 3200000 in
theorem heldCrl_any (c : Cl) (m : ClPl) (w : World) (h : ClMd w c m) (hS : ClSm c 1048576) :
  Calls Tryz.prog 11 #[.agg (clL c m).toArray, .int .i64 1] w fun e w' => e = .returned (.int .i64 (1 + (c.ni : Int) + c.nv + c.ng)) ∧ Ext w w' := by
 obtain ⟨V, hV⟩ : ∃ V, w.alloc (.cells (clL c m).toArray 26) = V := ⟨_, rfl⟩
 obtain ⟨B0, hE, -⟩ := box1 w (clL c m) 26 (w1 := V) (by rw [← hV]; exact Ext.refl _)
 have HlV := hide (Blk.lt B0 (by simp [clL]))
 have HM1 := hide (heldStringS_any m.i.ad m.i.b m.i.off c.ni m.i.cap V (h.i.of_all hE) hS.i)
 have HM2 : Hid (∀ W, Ext V W → Calls Tryz.prog 34 #[.slice m.v.ad c.nv m.v.cap, .int .i64 (1 + (c.ni : Int))] W fun e w' => e = .returned (.int .i64 (1 + (c.ni : Int) + c.nv)) ∧ w' = W) := fun W hW => heldIntS_any m.v.ad m.v.b m.v.off c.nv m.v.cap (1 + (c.ni : Int)) W (h.v.of_all (hE.trans hW)) hS.v (by omega) (by have := hS.i; omega)
 have HM3 : Hid (∀ W, Ext V W → Calls Tryz.prog 35 #[.slice m.g.ad c.ng m.g.cap, .int .i64 (1 + (c.ni : Int) + c.nv)] W fun e w' => e = .returned (.int .i64 (1 + (c.ni : Int) + c.nv + c.ng)) ∧ w' = W) := fun W hW => heldByteS_any m.g.ad m.g.b m.g.off c.ng m.g.cap (1 + (c.ni : Int) + c.nv) W (h.g.of_all (hE.trans hW)) hS.g (by omega) (by have := hS.i; have := hS.v; omega)
 have g1 : ¬ (1 + (c.ni : Int) < 0) := by omega
 have g2 : ¬ (1 + (c.ni : Int) + c.nv < 0) := by omega
 have g3 : ¬ (1 + (c.ni : Int) + c.nv + c.ng < 0) := by omega
 have HBk := hide B0
 have HE := hide hE
 clear h hS hE B0
 have c0 := (HBk.out 0 _ rfl).1
 go_enter Tryz.func11, Tryz.ntmps11
 go_wp2_with fail
 refine HM1.out.mono ?_
 rintro e w1 ⟨rfl, hE1⟩
 have HE1 := hide hE1
 replace HBk := hide (HBk.out.ext hE1 HlV.out)
 clear hE1 c0 HM1
 have c4 := (HBk.out 4 _ rfl).1
 have c5 := (HBk.out 5 _ rfl).1
 go_wp2_with fail
 refine (HM2.out _ HE1.out).mono ?_
 rintro e w2 ⟨rfl, hw⟩
 obtain rfl := hw.symm
 clear c4
 go_wp2_with fail
 refine (HM3.out _ HE1.out).mono ?_
 rintro e w3 ⟨rfl, hw⟩
 obtain rfl := hw.symm
 clear c5
 go_wp2
 go_ret
 exact ⟨rfl, HE.out.trans HE1.out⟩
def InL (c : Cl) (w : World) (L : List Value) : Prop := ∃ m, L = clL c m ∧ ClIn w c m
def QL (c : Cl) (B T : Nat) (w : World) (L : List Value) : Prop := ∃ m, L = clL c m ∧ ClQ B w c m ∧ (0 < c.ni → m.i.b < T) ∧ (0 < c.nv → m.v.b < T) ∧ (0 < c.ng → m.g.b < T)
def ML (c : Cl) (w : World) (L : List Value) : Prop := ∃ m, L = clL c m ∧ ClMd w c m
theorem InL.ext {c : Cl} {w w' : World} {L : List Value} (h : InL c w L) (e : Ext w w') : InL c w' L := by
 obtain ⟨m, h1, h2⟩ := h; exact ⟨m, h1, h2.ext e⟩
theorem ML.ext {c : Cl} {w w' : World} {L : List Value} (h : ML c w L) (e : Ext w w') : ML c w' L := by
 obtain ⟨m, h1, h2⟩ := h; exact ⟨m, h1, h2.ext e⟩
theorem QL.ext {c : Cl} {B T : Nat} {w w' : World} {L : List Value} (h : QL c B T w L) (e : Ext w w') : QL c B T w' L := by
 obtain ⟨m, h1, h2, h3⟩ := h; exact ⟨m, h1, h2.ext e, h3⟩
theorem QL.blk {c : Cl} {B T : Nat} {w w' : World} {L : List Value} (h : QL c B T w L) (e : ∀ q, B ≤ q → q < w.heap.size → w'.heap[q]? = w.heap[q]?) : QL c B T w' L := by
 obtain ⟨m, h1, h2, h3⟩ := h; exact ⟨m, h1, h2.blk e, h3⟩
theorem QL.in' {c : Cl} {B T : Nat} {w : World} {L : List Value} (h : QL c B T w L) : InL c w L := by
 obtain ⟨m, h1, h2, h3⟩ := h; exact ⟨m, h1, h2.in'⟩
theorem InL.six {c : Cl} {w : World} {L : List Value} (h : InL c w L) : L.length = 6 ∧ ∀ v ∈ L, v.oneCell' = true := by
 obtain ⟨m, rfl, -⟩ := h; exact ⟨rfl, by simp [clL, Value.oneCell']⟩
theorem box_six (L : List Value) (h : L.length = 6 ∧ ∀ v ∈ L, v.oneCell' = true) (W : World) : ∃ U, (Instr.storeAt 26 (.pointer (some ⟨W.heap.size, 0, none⟩)) (.agg L.toArray)).run Tryz.prog (W.alloc (.cells #[.slice none 0 0, .int .i64 0, .int .i64 0, .int .i64 0, .slice none 0 0, .slice none 0 0] 26)) = .ok () U ∧ Blk U W.heap.size L ∧ Ext W U ∧ W.heap.size < U.heap.size := by
 obtain ⟨hl, ho⟩ := h
 have hB := Blk.alloc W [.slice none 0 0, .int .i64 0, .int .i64 0, .int .i64 0, .slice none 0 0, .slice none 0 0] 26
 refine ⟨_, run_st (P := Tryz.prog) 26 L _ (by rw [hl]; kernel_rfl) ho W.heap.size 0 (Blk.st hB 0 _ (by rw [hl]; decide)), Blk.putAll1 (vs := L) hB (by rw [hl]; rfl), below_putL (Nat.le_refl _) _ 0 _ (Ext.alloc _ _), ?_⟩
 rw [size_putL]
 simp
theorem ld_six {L : List Value} (hl : L.length = 6) {b : Nat} {W : World} (hB : Blk W b L) : (loadVar 26 ⟨b, 0, none⟩).run Tryz.prog W = .ok (.agg L.toArray) W :=
 run_ld (P := Tryz.prog) 26 L W (by rw [hl]; kernel_rfl) (by kernel_rfl) b 0 (Blk.ld hB 0 _ (fun j v h => by rw [Nat.zero_add]; exact h))
set_option maxHeartbeats 6400000 in
set_option maxRecDepth 100000 in
theorem lawReadCrl_at (a : Option Addr) (b off n cap : Nat) (f : Nat → Int) (c : Cl) (ok : Bool) (Z : Int) (hZ : 0 ≤ Z) (w : World) (hs : BSeg w a b off n f) (hn : n ≤ 1048576)
  (HSp : Hid (∀ (R : Nat) (W : World), Ext w W → BSeg W (some ⟨R, 0, none⟩) R 0 n f → Calls Tryz.prog 4 #[.slice (some ⟨R, 0, none⟩) n n] W fun e w' => ∃ L, e = .returned (.tuple #[.agg L.toArray, .bool ok]) ∧ InL c w' L ∧ Ext W w'))
  (HIm : Hid (∀ (R : Nat) (W : World), Ext w W → BSeg W (some ⟨R, 0, none⟩) R 0 n f → Calls Tryz.prog 6 #[.slice (some ⟨R, 0, none⟩) n n] W fun e w' => ∃ L, e = .returned (.tuple #[.agg L.toArray, .bool ok]) ∧ QL c W.heap.size w'.heap.size w' L ∧ Ext W w'))
  (HEq : Hid (∀ (L L' : List Value) (W : World), InL c W L → InL c W L' → Calls Tryz.prog 7 #[.agg L.toArray, .agg L'.toArray] W fun e w' => e = .returned (.bool true) ∧ Ext W w'))
  (HMk : Hid (∀ (L : List Value) (B T : Nat) (W : World), QL c B T W L → Calls Tryz.prog 10 #[.agg L.toArray, .int .i64 1] W fun e w' => e = .returned (.int .i64 Z) ∧ ML c w' L ∧ Mkw B T W w'))
  (HHd : Hid (∀ (L : List Value) (W : World), ML c W L → Calls Tryz.prog 11 #[.agg L.toArray, .int .i64 1] W fun e w' => e = .returned (.int .i64 Z) ∧ Ext W w')) :
  Calls Tryz.prog 3 #[.slice a n cap] w fun e w' => e = .returned (.bool true) ∧ Ext w w' := by
 have hz : ¬ (1048576 : Int) < (n : Int) := by omega
 have hz2 : ¬ (n : Int) > (1048576 : Int) := by omega
 have HTo : Hid (∀ W, Ext w W → Calls Tryz.prog 5 #[.slice a n cap] W fun e w' => e = .returned (.slice (some ⟨W.heap.size, 0, none⟩) n n) ∧ w'.heap.size = W.heap.size + 1 ∧ BOwn w' (some ⟨W.heap.size, 0, none⟩) W.heap.size 0 n f ∧ Ext W w') := fun W hW => (toByteS_any a b off n cap f W (hs.of_all hW) hn).mono (fun e w' ⟨h1, h2, h3, h4⟩ => ⟨h1, h2, BOwn.of_row h3 (Nat.le_refl _), h4⟩)
 have HE0 := hide (Ext.refl w)
 have hne1 : (ok != ok) = false := by simp
 have hne2 : (Z != Z) = false := by simp
 have hZ0 : ¬ Z < 0 := by omega
 clear hs hZ
 go_enter Tryz.func3, Tryz.ntmps3
 go_wp2_with fail
 refine (HTo.out _ HE0.out).mono ?_
 rintro e w2 ⟨rfl, -, hs2, HEW⟩
 have HE := hide HEW
 have Hs2 := hide hs2
 clear HEW HE0 hs2
 go_wp2_with fail
 refine (HSp.out _ _ HE.out Hs2.out.toBSeg).mono ?_
 rintro e w3 ⟨LW, rfl, hw, HEW⟩
 replace HE := hide (Ext.trans HE.out HEW)
 obtain ⟨U3, hst, hB, hE3, hlt⟩ := box_six LW hw.six w3
 have Hw6 := hide hw.six.1
 have Low := hide (hw.ext hE3)
 have BA := hide hB
 have LA := hide hlt
 have HEu := hide (Ext.trans HE.out hE3)
 clear HEW hw hB hE3 hlt Hs2 HSp HE
 go_wp2_with (first | (refine wpList_st (by first | rfl | simp [Region.wanted, yielded]) 26 _ _ rfl _ rfl _ rfl _ hst ?_))
 clear hst
 refine (HTo.out _ HEu.out).mono ?_
 rintro e w4 ⟨rfl, hz4, hs4, HEW⟩
 have X := hide HEW
 have Hs4 := hide hs4
 have L4 := hide (show U3.heap.size < w4.heap.size by omega)
 clear HEW hs4 hz4
 go_wp2_with fail
 refine (HIm.out _ _ (HEu.out.trans X.out) Hs4.out.toBSeg).mono ?_
 rintro e w5 ⟨LG, rfl, hq, HEW⟩
 obtain ⟨U5, hst, hB, hE5, hlt⟩ := box_six LG hq.in'.six w5
 have Hg6 := hide hq.in'.six.1
 have Og := hide (hq.ext hE5)
 have BG := hide hB
 have LG5 := hide hlt
 have L45 := hide (show w4.heap.size ≤ w5.heap.size from Below.size HEW)
 have hX5 := HEW.trans hE5
 replace X := hide (X.out.trans hX5)
 replace Hs4 := hide (Hs4.out.of_all hX5)
 have l1 := ld_six Hg6.out BG.out
 have l2 := ld_six Hw6.out (BA.out.ext X.out LA.out)
 clear HEW hq hB hE5 hlt hX5
 go_wp2_with (first | (refine wpList_st (by first | rfl | simp [Region.wanted, yielded]) 26 _ _ rfl _ rfl _ rfl _ hst ?_) | (refine wpList_ld (by first | rfl | simp [Region.wanted, yielded]) 26 _ rfl _ rfl _ l1 ?_) | (refine wpList_ld (by first | rfl | simp [Region.wanted, yielded]) 26 _ rfl _ rfl _ l2 ?_))
 clear hst l1 l2
 refine (HEq.out _ _ _ Og.out.in' (Low.out.ext X.out)).mono ?_
 rintro e w6 ⟨rfl, HEW⟩
 have lt6 := Below.size HEW
 replace X := hide (X.out.trans HEW)
 replace Og := hide (Og.out.ext HEW)
 replace BG := hide (BG.out.ext HEW LG5.out)
 replace LG5 := hide (Nat.lt_of_lt_of_le LG5.out (Below.size HEW))
 replace Hs4 := hide (Hs4.out.of_all HEW)
 clear HEW lt6
 go_wp2_with fail
 refine (HTo.out _ (HEu.out.trans X.out)).mono ?_
 rintro e w8 ⟨rfl, -, hs8, HEW⟩
 replace X := hide (X.out.trans HEW)
 replace Og := hide (Og.out.ext HEW)
 replace BG := hide (BG.out.ext HEW LG5.out)
 replace LG5 := hide (Nat.lt_of_lt_of_le LG5.out (Below.size HEW))
 replace Hs4 := hide (Hs4.out.of_all HEW)
 have Hs8 := hide hs8
 clear HEW hs8
 go_wp2_with fail
 refine (eqByteS_any _ _ 0 n n f _ _ 0 n n f _ Hs4.out.toBSeg Hs8.out.toBSeg hn).mono ?_
 rintro e w9 ⟨rfl, q, hq⟩
 have HEW : Ext w8 w9 := by rw [hq]; exact ⟨rfl, rfl, rfl, Nat.le_refl _, fun _ _ => rfl⟩
 rw [show (n == n && alike f f n) = true by rw [alike_refl]]
 replace X := hide (X.out.trans HEW)
 replace Og := hide (Og.out.ext HEW)
 replace BG := hide (BG.out.ext HEW LG5.out)
 replace LG5 := hide (Nat.lt_of_lt_of_le LG5.out (Below.size HEW))
 replace Hs4 := hide (Hs4.out.of_all HEW)
 clear HEW Hs8 hq
 go_wp2_with fail
 refine (markByteS_any _ U3.heap.size 0 n n f 1 _ Hs4.out hn (by omega) (by omega)).mono ?_
 rintro e w10 ⟨rfl, -, hT⟩
 have hT1 : Below U3.heap.size w9 w10 := ⟨hT.grown.os, hT.grown.tape, hT.grown.output, hT.grown.size, fun k hk => by
  by_cases h : k < w9.heap.size
  ·exact hT.grown.block k h (by simp; omega)
  ·rw [Array.getElem?_eq_none (by have := hT.size; omega), Array.getElem?_eq_none (by omega)]⟩
 replace X := hide (show Ext U3 w10 from Below.trans X.out hT1)
 replace Og := hide (Og.out.blk (fun q h1 h2 => hT.grown.block q h2 (by have := L4.out; simp; omega)))
 replace BG := hide (BG.out.of_heap (hT.grown.block _ LG5.out (by have := L4.out; have := L45.out; simp; omega)))
 replace LG5 := hide (Nat.lt_of_lt_of_le LG5.out hT.grown.size)
 have hk0 : ¬ (1 + (n : Int) < 0) := by omega
 have l1 := ld_six Hg6.out BG.out
 have l2 := ld_six Hw6.out (BA.out.ext X.out LA.out)
 clear hT hT1 Hs4
 go_wp2_with (first | (refine wpList_ld (by first | rfl | simp [Region.wanted, yielded]) 26 _ rfl _ rfl _ l1 ?_) | (refine wpList_ld (by first | rfl | simp [Region.wanted, yielded]) 26 _ rfl _ rfl _ l2 ?_))
 clear l1 l2 hk0
 refine (HEq.out _ _ _ Og.out.in' (Low.out.ext X.out)).mono ?_
 rintro e w11 ⟨rfl, HEW⟩
 replace X := hide (X.out.trans HEW)
 replace Og := hide (Og.out.ext HEW)
 replace BG := hide (BG.out.ext HEW LG5.out)
 replace LG5 := hide (Nat.lt_of_lt_of_le LG5.out (Below.size HEW))
 have l1 := ld_six Hg6.out BG.out
 clear HEW
 go_wp2_with (first | (refine wpList_ld (by first | rfl | simp [Region.wanted, yielded]) 26 _ rfl _ rfl _ l1 ?_))
 clear l1
 refine (HMk.out _ _ _ _ Og.out).mono ?_
 rintro e w12 ⟨rfl, hm, hK⟩
 have Hm := hide hm
 replace X := hide (show Ext U3 w12 from hK.below X.out (Nat.le_of_lt L4.out) (Below.size X.out))
 replace BG := hide (BG.out.of_heap (hK.same _ LG5.out (.inr (Nat.le_refl _))))
 replace LG5 := hide (Nat.lt_of_lt_of_le LG5.out hK.size)
 have l1 := ld_six Hg6.out BG.out
 clear hm hK Og
 go_wp2_with (first | (refine wpList_ld (by first | rfl | simp [Region.wanted, yielded]) 26 _ rfl _ rfl _ l1 ?_))
 clear l1
 refine (HHd.out _ _ Hm.out).mono ?_
 rintro e w13 ⟨rfl, HEW⟩
 replace X := hide (X.out.trans HEW)
 replace Hm := hide (Hm.out.ext HEW)
 replace BG := hide (BG.out.ext HEW LG5.out)
 replace LG5 := hide (Nat.lt_of_lt_of_le LG5.out (Below.size HEW))
 clear HEW
 go_wp2_with fail
 refine (HTo.out _ (HEu.out.trans X.out)).mono ?_
 rintro e w14 ⟨rfl, -, hs8, HEW⟩
 replace X := hide (X.out.trans HEW)
 replace Hm := hide (Hm.out.ext HEW)
 replace BG := hide (BG.out.ext HEW LG5.out)
 replace LG5 := hide (Nat.lt_of_lt_of_le LG5.out (Below.size HEW))
 have Hs8 := hide hs8
 clear HEW hs8
 go_wp2_with fail
 refine (HIm.out _ _ (HEu.out.trans X.out) Hs8.out.toBSeg).mono ?_
 rintro e w15 ⟨LH, rfl, hq, HEW⟩
 obtain ⟨U15, hst, hB, hE5, hlt⟩ := box_six LH hq.in'.six w15
 have Oh := hide (hq.in'.ext hE5)
 have hX := HEW.trans hE5
 replace X := hide (X.out.trans hX)
 replace Hm := hide (Hm.out.ext hX)
 replace BG := hide (BG.out.ext hX LG5.out)
 replace LG5 := hide (Nat.lt_of_lt_of_le LG5.out (Below.size hX))
 have l1 := ld_six hq.in'.six.1 hB
 have l2 := ld_six Hw6.out (BA.out.ext X.out LA.out)
 clear HEW hq hB hE5 hlt hX Hs8 HIm
 go_wp2_with (first | (refine wpList_st (by first | rfl | simp [Region.wanted, yielded]) 26 _ _ rfl _ rfl _ rfl _ hst ?_) | (refine wpList_ld (by first | rfl | simp [Region.wanted, yielded]) 26 _ rfl _ rfl _ l1 ?_) | (refine wpList_ld (by first | rfl | simp [Region.wanted, yielded]) 26 _ rfl _ rfl _ l2 ?_))
 clear hst l1 l2
 refine (HEq.out _ _ _ Oh.out (Low.out.ext X.out)).mono ?_
 rintro e w16 ⟨rfl, HEW⟩
 replace X := hide (X.out.trans HEW)
 replace Hm := hide (Hm.out.ext HEW)
 replace BG := hide (BG.out.ext HEW LG5.out)
 have l1 := ld_six Hg6.out BG.out
 clear HEW Oh HTo Low BA HEq HMk
 go_wp2_with (first | (refine wpList_ld (by first | rfl | simp [Region.wanted, yielded]) 26 _ rfl _ rfl _ l1 ?_))
 clear l1
 refine (HHd.out _ _ Hm.out).mono ?_
 rintro e w17 ⟨rfl, HEW⟩
 replace X := hide (X.out.trans HEW)
 clear HEW
 go_wp2
 go_ret
 exact ⟨rfl, HEu.out.trans X.out⟩
theorem LayC.same {x : Nat → It} {n : Nat} {c d : Cl} (L : LayC x n c) (O : ClOk c) (L' : LayC x n d) (O' : ClOk d) : SameL c d := by
 obtain ⟨-, b1, b2⟩ := bits_of L.b
 have h := CrlV.same (x := x) (n := n) (c := { c with fg := fun i => (x (kpl x n 0 1)).f (i + 1) }) ⟨by rw [L.q1, L.nk], fun j hj => by rw [L.q1, L.np j (by have : j < c.ni := hj; omega), txS_of (L.nt j hj)], by rw [L.q2, L.tp 0 (by omega), Nat.add_zero]; exact L.t1.2.2.symm, by rw [L.q2, L.tp 1 (by omega), show 5 + c.ni + 1 = 6 + c.ni by omega]; exact L.t2.2.2.symm,
  ⟨small64 O.alg.1 (by have := O.alg.2; show c.alg ≤ _; omega), fun k hk h => by
   rw [L.q0] at h
   exact (ri_of (small64 O.alg.1 (by have := O.alg.2; omega)) L.i2).2.symm.trans (ri_of hk h).2⟩, by rw [L.q3, L.sk],
  fun j hj => ⟨small64 (O.fv j hj).1 (O.fv j hj).2, fun k hk h => by
   rw [L.q3, L.sp j (by have : j < c.nv := hj; omega)] at h
   exact (ri_of (small64 (O.fv j hj).1 (O.fv j hj).2) (L.st j hj)).2.symm.trans (ri_of hk h).2⟩, by rw [L.rz, b1]; rfl, rfl⟩ L' O'
 exact ⟨h.ni, h.fi, h.fr, h.to, h.alg, h.nv, h.fv, h.ng, fun j hj => ((show c.fg j = (x (kpl x n 0 1)).f (j + 1) by rw [L.rz]; exact (b2 j hj).symm)).trans (h.fg j hj)⟩
theorem ict_of (C : List Ic) : ∃ M : List It, M.map ct = C := by
 refine ⟨C.map (fun c => ⟨c.tag, c.kid, none, 0, 0, c.bd.length, 0, fun i => c.bd.getD i 0⟩), ?_⟩
 rw [List.map_map]
 conv => rhs; rw [← List.map_id C]
 refine List.map_congr_left (fun c _ => ?_)
 show (⟨c.tag, c.kid, (List.range c.bd.length).map (fun i => c.bd.getD i 0)⟩ : Ic) = c
 have e : (List.range c.bd.length).map (fun i => c.bd.getD i 0) = c.bd := List.ext_getElem (by simp) (fun i h1 h2 => by simp [h2])
 rw [e]
theorem CrlRd.same {g : Int → Nat × Nat × Nat × Nat} (hg : DayG g) {f : Nat → Int} {bn : Nat} (hb : ∀ i, i < bn → 0 ≤ f i ∧ f i < 256) {c d : Cl} (h : CrlRd g f bn c) (k : CrlRd g f bn d) : SameL c d := by
 obtain ⟨M, hM⟩ := ict_of (rdA f bn).1
 exact LayC.same ((h.lay hg hb).2 M hM) (ClOk.of h.1) ((k.lay hg hb).2 M hM) (ClOk.of k.1)
theorem ClOk.sm {c : Cl} (O : ClOk c) : ClSm c 1048576 := ⟨by have := O.ni; omega, fun j hj => by have := O.fi j hj; omega, by have := O.nv; omega, by have := O.ng; omega⟩
theorem SameL.cells {c d : Cl} (h : SameL c d) (m : ClPl) : clL d m = clL c m := by
 unfold clL
 rw [h.ni, h.fr, h.to, h.alg, h.nv, h.ng]
theorem SameL.in' {c d : Cl} (h : SameL c d) {w : World} {m : ClPl} (k : ClIn w d m) : ClIn w c m :=
 ⟨⟨fun h0 => k.i.at' (by rw [← h.ni]; exact h0), fun j hj => by rw [h.fi j hj]; exact k.i.cell j (by rw [← h.ni]; exact hj)⟩, ⟨fun h0 => k.v.at' (by rw [← h.nv]; exact h0), fun j hj => by rw [h.fv j hj]; exact k.v.cell j (by rw [← h.nv]; exact hj)⟩, ⟨fun h0 => k.g.at' (by rw [← h.ng]; exact h0), fun j hj => by rw [h.fg j hj]; exact k.g.cell j (by rw [← h.ng]; exact hj)⟩⟩
theorem SameL.q {c d : Cl} (h : SameL c d) {w : World} {m : ClPl} {B : Nat} (k : ClNw B w d m) : QL c B w.heap.size w (clL d m) := by
 have i := h.in' k.in'
 have e0 := k.b0; have e1 := k.b1; have e2 := k.b2; have e3 := k.b3
 exact ⟨m, h.cells m, ⟨i.i, ⟨fun h0 => k.ia.at' (by rw [← h.ni]; exact h0), fun j hj => k.ia.cell j (by rw [← h.ni]; exact hj), fun j hj => k.ia.free j (by rw [← h.ni]; exact hj)⟩, ⟨i.v, fun j hj => k.v.free j (by rw [← h.nv]; exact hj)⟩, ⟨i.g, fun j hj => k.g.free j (by rw [← h.ng]; exact hj)⟩, fun _ => by omega, fun _ => by omega, fun _ => by omega, fun _ _ => by omega, fun _ _ => by omega, fun _ _ => by omega⟩, fun _ => by omega, fun _ => by omega, fun _ => by omega⟩
def c0L : Cl := ⟨0, fun _ => ⟨#[]⟩, 0, 0, 0, 0, fun _ => 0, 0, fun _ => 0⟩
def m0L : ClPl := ⟨⟨none, 0, 0, 0⟩, ⟨none, 0, 0, 0⟩, ⟨none, 0, 0, 0⟩⟩
theorem c0_q (B T : Nat) (w : World) : QL c0L B T w zL :=
 ⟨m0L, rfl, ⟨⟨fun h => absurd h (Nat.lt_irrefl _), fun i h => absurd h (Nat.not_lt_zero _)⟩, ⟨fun h => absurd h (Nat.lt_irrefl _), fun i h => absurd h (Nat.not_lt_zero _), fun i h => absurd h (Nat.not_lt_zero _)⟩, ⟨⟨fun h => absurd h (Nat.lt_irrefl _), fun i h => absurd h (Nat.not_lt_zero _)⟩, fun i h => absurd h (Nat.not_lt_zero _)⟩, ⟨⟨fun h => absurd h (Nat.lt_irrefl _), fun i h => absurd h (Nat.not_lt_zero _)⟩, fun i h => absurd h (Nat.not_lt_zero _)⟩, fun h => absurd h (Nat.lt_irrefl _), fun h => absurd h (Nat.lt_irrefl _), fun h => absurd h (Nat.lt_irrefl _), fun h => absurd h (Nat.lt_irrefl _), fun h => absurd h (Nat.lt_irrefl _), fun h => absurd h (Nat.lt_irrefl _)⟩, fun h => absurd h (Nat.lt_irrefl _), fun h => absurd h (Nat.lt_irrefl _), fun h => absurd h (Nat.lt_irrefl _)⟩
theorem lawReadCrl_any (a : Option Addr) (b off n cap : Nat) (f : Nat → Int) (w : World) (hs : BSeg w a b off n f) (hb : ∀ i, i < n → 0 ≤ f i ∧ f i ≤ 255) (hH : Hdl w) (hT : Tbl w) :
  Calls Tryz.prog 3 #[.slice a n cap] w fun e w' => e = .returned (.bool true) ∧ Ext w w' := by
 have hb' : ∀ i, i < n → 0 ≤ f i ∧ f i < 256 := fun i hi => by have := hb i hi; omega
 obtain ⟨g, hg⟩ := dayG_ex
 by_cases hn : n ≤ 1048576
 ·have key : ∃ (c : Cl) (ok : Bool), ClSm c 1048576 ∧ (∀ (R : Nat) (W : World), Ext w W → BSeg W (some ⟨R, 0, none⟩) R 0 n f → Calls Tryz.prog 4 #[.slice (some ⟨R, 0, none⟩) n n] W fun e w' => ∃ L, e = .returned (.tuple #[.agg L.toArray, .bool ok]) ∧ InL c w' L ∧ Ext W w') ∧
    (∀ (R : Nat) (W : World), Ext w W → BSeg W (some ⟨R, 0, none⟩) R 0 n f → Calls Tryz.prog 6 #[.slice (some ⟨R, 0, none⟩) n n] W fun e w' => ∃ L, e = .returned (.tuple #[.agg L.toArray, .bool ok]) ∧ QL c W.heap.size w'.heap.size w' L ∧ Ext W w') := by
   by_cases hP : ∃ d, CrlRd g f n d
   ·obtain ⟨d, hd⟩ := hP
    refine ⟨d, true, (ClOk.of hd.1).sm, fun R W hW h => (specReadCrl_any g hg _ R 0 n n f W h hb' (Nat.le_refl _) (by omega) hn).mono ?_, fun R W hW h => (implReadCrl_any g hg _ R 0 n n f W h hb' (Nat.le_refl _) (by omega) hn (hH.of_ext hW) (hT.ext hW)).mono ?_⟩
    ·rintro e w' ⟨hE, ⟨c, m, rfl, h1, h2, h3⟩ | ⟨-, hno⟩⟩
     ·have hs := CrlRd.same hg hb' hd h3
      exact ⟨_, rfl, ⟨m, hs.cells m, hs.in' h1⟩, hE⟩
     ·exact absurd ⟨d, hd⟩ hno
    ·rintro e w' ⟨hE, ⟨c, m, rfl, h1, h3⟩ | ⟨-, hno⟩⟩
     ·exact ⟨_, rfl, (CrlRd.same hg hb' hd h3).q h1, hE⟩
     ·exact absurd ⟨d, hd⟩ hno
   ·refine ⟨c0L, false, ⟨Nat.zero_le _, fun j hj => absurd hj (Nat.not_lt_zero _), Nat.zero_le _, Nat.zero_le _⟩, fun R W hW h => (specReadCrl_any g hg _ R 0 n n f W h hb' (Nat.le_refl _) (by omega) hn).mono ?_, fun R W hW h => (implReadCrl_any g hg _ R 0 n n f W h hb' (Nat.le_refl _) (by omega) hn (hH.of_ext hW) (hT.ext hW)).mono ?_⟩
    ·rintro e w' ⟨hE, ⟨c, m, rfl, h1, h2, h3⟩ | ⟨rfl, hno⟩⟩
     ·exact absurd ⟨c, h3⟩ hP
     ·exact ⟨_, rfl, (c0_q 0 0 w').in', hE⟩
    ·rintro e w' ⟨hE, ⟨c, m, rfl, h1, h3⟩ | ⟨rfl, hno⟩⟩
     ·exact absurd ⟨c, h3⟩ hP
     ·exact ⟨_, rfl, c0_q _ _ w', hE⟩
  obtain ⟨c, ok, hS, h1, h2⟩ := key
  refine lawReadCrl_at a b off n cap f c ok (1 + (c.ni : Int) + c.nv + c.ng) (by omega) w hs hn (hide h1) (hide h2) (hide ?_) (hide ?_) (hide ?_)
  ·rintro L L' W ⟨m, rfl, hI⟩ ⟨m', rfl, hJ⟩
   exact eqCrl_same c m m' W hI hJ hS
  ·rintro L B T W ⟨m, rfl, hQ, t0, t1, t2⟩
   refine (markCrlQ_any B T c m W hQ t0 t1 t2 hS).mono ?_
   rintro e w' ⟨h1, h2, h3⟩
   exact ⟨h1, ⟨m, rfl, h2⟩, h3⟩
  ·rintro L W ⟨m, rfl, hM⟩
   exact heldCrl_any c m W hM hS
 ·have hz : (1048576 : Int) < (n : Int) := by omega
  go_enter Tryz.func3, Tryz.ntmps3
  go_wp2
  go_ret
  exact ⟨rfl, Ext.refl _⟩
end
section
open Go.RowKit
open Go.ChangeShapes Go.WideShapes Go.ChangeAt
section
variable {H : Type} {enc : TypeId × Value → H} {w : World} {base : Nat} {held : Bool}
set_option maxRecDepth 100000 in
theorem open_bytesC {fuel : Nat} {cs : List Value} {x : DataW H × List MemPlace} (h : DataW.trod enc Tryz.prog w base (fun _ => true) held fuel 22 cs = some x) :
  ∃ (a : Option Addr) (b off n cap : Nat) (f : Nat → Int), cs = [.slice a n cap] ∧ BSeg w a b off n f ∧ (∀ i, i < n → 0 ≤ f i ∧ f i ≤ 255) ∧ n ≤ 9223372036854775807 ∧ n ≤ cap := by
 rcases open_ints Tryz.underlying22 Tryz.underlying5 (by kernel_rfl) h with ⟨hcs, _⟩ | ⟨a, l, c, zs, hcs, _, hl, hm, hz, _, hcell, hwz⟩
 ·exact ⟨none, 0, 0, 0, 0, fun _ => 0, hcs, ⟨fun h => absurd h (Nat.lt_irrefl _), fun i hi => absurd hi (Nat.not_lt_zero _)⟩, fun i hi => absurd hi (Nat.not_lt_zero _), Nat.zero_le _, Nat.zero_le _⟩
 ·simp at hz
  obtain ⟨b, off, spot⟩ := a
  have hmm : l ≤ 9223372036854775807 := by unfold maxLen at hm; omega
  by_cases h0 : l = 0
  ·subst h0
   exact ⟨_, 0, 0, 0, c, fun _ => 0, hcs, ⟨fun h => absurd h (Nat.lt_irrefl _), fun i hi => absurd hi (Nat.not_lt_zero _)⟩, fun i hi => absurd hi (Nat.not_lt_zero _), Nat.zero_le _, Nat.zero_le _⟩
  ·have hspot : spot = none := by simpa [Addr.add] using World.cell?_spot (hcell 0 (by omega))
   subst hspot
   refine ⟨some ⟨b, off, none⟩, b, off, l, c, fun i => zs.getD i 0, hcs, ⟨fun _ => rfl, fun i hi => ?_⟩, fun j hj => ?_, hmm, hl⟩
   ·have := hcell i (by omega)
    have e : (⟨b, off, none⟩ : Addr).add i = ⟨b, off + i, none⟩ := by
     by_cases h0 : i = 0
     ·subst h0; simp [Addr.add]
     ·simp [Addr.add, h0]
    rwa [e] at this
   ·have hm : zs.getD j 0 ∈ zs := by
     rw [List.getD_eq_getElem?_getD, List.getElem?_eq_getElem (show j < zs.length by omega)]
     exact List.getElem_mem _
    have := bounds_u8 (hwz _ hm)
    show 0 ≤ zs.getD j 0 ∧ zs.getD j 0 ≤ 255
    omega
set_option maxRecDepth 100000 in
theorem open_bytes {r : Reach} {b0 : Nat} {v : Value} {d : DataW H} {p : List MemPlace} (hv : Value.okWide Tryz.prog w r b0 22 v) (h : DataW.Trod enc Tryz.prog w base (fun _ => true) held 22 v d p) :
  ∃ (a : Option Addr) (b off n cap : Nat) (f : Nat → Int), v = .slice a n cap ∧ BSeg w a b off n f ∧ (∀ i, i < n → 0 ≤ f i ∧ f i ≤ 255) := by
 obtain ⟨a', len', cap', rfl⟩ := okWide_slice Tryz.underlying22 hv
 obtain ⟨fuel, hf⟩ := h
 obtain ⟨a, b, off, n, cap, f, hcs, hI, hB, -, -⟩ := open_bytesC hf
 simp [Value.cells] at hcs
 obtain ⟨rfl, rfl, rfl⟩ := hcs
 exact ⟨_, b, off, _, _, f, rfl, hI, hB⟩
end
end
end Go.Proofs.YtkogbinfhoiggaaGreatDoor
