/- Walks: marks in lists of strings, told exactly, and found again; one contract for what marks and what finds the marks. Walks: marks in lists of lists of numbers, and found again. Walks: a list of lists of numbers copied, each of its rows one's own. A region that draws its order, in two phases: its first operations in any order, then the others. Nothing of the program. Walk: the model's l1In: whether a number lies between two. -/
import Derived.Test.YtfhiiakoilkbkaaGreatDoorCv05
namespace Go.Proofs.YtfhiiakoilkbkaaGreatDoor
set_option linter.unusedVariables false
set_option linter.unusedSimpArgs false
section
open Go.RowKit
def dgm (r : Int) : ByteArray := strOfNums (nums (fun _ => r) 1)
def mtD : Nat → Nat → ByteArray → ByteArray
 | 0, _, s => s
 | c + 1, j, s => if j = 0 then s else mtD c (j / 10) (dgm (48 + ((j % 10 : Nat) : Int)) ++ s)
def mtx (k : Nat) : ByteArray := if k = 0 then ⟨#[109, 48]⟩ else ⟨#[109]⟩ ++ mtD k k ⟨#[]⟩
theorem mtD_zero (c : Nat) (s : ByteArray) : mtD c 0 s = s := by cases c <;> rfl
theorem mtD_step {c j : Nat} (s : ByteArray) (h0 : 0 < j) : mtD (c + 1) j s = mtD c (j / 10) (dgm (48 + ((j % 10 : Nat) : Int)) ++ s) := by rw [mtD, if_neg (by omega)]
theorem conv1X (w : World) (x : Int) : (convert 37 9 (.slice (some ⟨w.heap.size, 0, none⟩) 1 1)).run Tryz.prog (w.alloc (.cells #[.int .u8 x] 5)) = .ok (.string (dgm x)) (w.alloc (.cells #[.int .u8 x] 5)) :=
 conv_seg (cap := 1) (bseg_new1 w x)
set_option maxRecDepth 100000 in
set_option maxHeartbeats 1600000 in
theorem markTextX_any (n : Nat) (k1 : n ≤ 1099511627776) (w : World) : Calls Tryz.prog 74 #[.int .i64 (n : Int)] w fun e w' => e = .returned (.string (mtx n)) ∧ Ext w w' := by
 by_cases h0 : n = 0
 ·subst h0
  go_enter Tryz.func74, Tryz.ntmps74
  go_wp2
  go_ret
  exact ⟨rfl, Ext.refl _⟩
 ·have g0 : ¬ ((n : Int) ≤ 0) := by omega
  have H1 : Hid (n ≤ 1099511627776) := by show _ ≤ _; omega
  have H0 := hide h0
  clear k1 h0
  go_enter Tryz.func74, Tryz.ntmps74
  go_wp2
  clear g0
  go_loopw [0, 3] (fun t v wr => ∃ (cc j : Nat) (s : ByteArray), t = .int .i64 (j : Int) ∧ v = .string s ∧ s.size + j ≤ n ∧ j ≤ cc ∧ Hid (mtD cc j s = mtD n n ⟨#[]⟩) ∧ Ext w wr) (fun t _ _ => (intOf t).toNat)
  case atStart => exact ⟨n, n, ⟨#[]⟩, rfl, rfl, by show 0 + n ≤ n; omega, Nat.le_refl _, rfl, Ext.refl _⟩
  case round =>
   obtain ⟨cc, j, s, rfl, rfl, hj, hcc, hD, hE⟩ := hrel
   have HJ := hide hj
   have HE := hide hE
   have HC := hide hcc
   clear hj hE hcc
   by_cases hp : 0 < j
   ·have g1 : (0 : Int) < (j : Int) := by omega
    have HN := H1.out
    have HJ2 := HJ.out
    obtain ⟨c1, rfl⟩ : ∃ c1, cc = c1 + 1 := ⟨cc - 1, by have := HC.out; omega⟩
    obtain ⟨q, r, hq, hes⟩ := mt_nums (j := j) (by omega) (by omega)
    have Hes := hide hes
    clear hes
    have hqe : j / 10 = q := by have := Hes.out.1; rw [Int.tdiv_eq_ediv_of_nonneg (Int.natCast_nonneg _)] at this; omega
    have hre : j % 10 = r := by have := Hes.out.2.1; rw [Int.tmod_eq_emod_of_nonneg (Int.natCast_nonneg _)] at this; omega
    have HD : Hid (mtD c1 q (dgm (48 + (r : Int)) ++ s) = mtD n n ⟨#[]⟩ ∧ q ≤ c1) := hide ⟨by rw [← hD.out, mtD_step s hp, hqe, hre], by have := HC.out; omega⟩
    clear hqe hre hD HC
    have hcv := conv1X wr (48 + (r : Int))
    have Hsz : Hid ((dgm (48 + (r : Int))).size = 1) := hide (str1_size _)
    generalize dgm (48 + (r : Int)) = s1 at *
    have hcat : ∀ W, (Op.stringOp .add s1 s).run Tryz.prog W = .ok (.string (s1 ++ s)) W := fun W => run_string_add_sum W s1 s (by have := Hsz.out; omega)
    have Hcs : Hid ((s1 ++ s).size + q ≤ n ∧ q < j) := by
     have h1 := cat_size s1 s
     have := Hsz.out
     exact ⟨by omega, hq⟩
    have HX : Hid (Ext wr (wr.alloc (.cells #[.int .u8 (48 + (r : Int))] 5))) := hide (Ext.alloc _ _)
    generalize s1 ++ s = s2 at *
    clear hq HN HJ2 hp
    obtain ⟨e1, e2, e3, e4, e5, e6, e7, e8, e9⟩ := Hes.out
    clear Hes
    go_wp2
    go_roundw
    case rel => exact ⟨c1, q, s2, rfl, rfl, Hcs.out.1, HD.out.2, HD.out.1, HE.out.trans HX.out⟩
    case measure => clear e1 e2 e3 e4 e5 e6 e7 e8 e9; have := Hcs.out.2; simp [intOf]; omega
   ·obtain rfl : j = 0 := by omega
    have HN := H1.out
    have HJ2 := HJ.out
    have hcat : ∀ W, (Op.stringOp .add (⟨#[109]⟩ : ByteArray) s).run Tryz.prog W = .ok (.string ((⟨#[109]⟩ : ByteArray) ++ s)) W := fun W => run_string_add_sum W _ s (by show 1 + s.size ≤ 9223372036854775807; omega)
    have HF : Hid ((⟨#[109]⟩ : ByteArray) ++ s = mtx n) := hide (by unfold mtx; rw [if_neg H0.out, ← hD.out, mtD_zero])
    generalize (⟨#[109]⟩ : ByteArray) ++ s = s2 at *
    clear HN HJ2 hp hD
    go_wp2
    go_ret
    exact ⟨congrArg (fun q => Ending.returned (.string q)) HF.out, HE.out⟩
set_option maxHeartbeats 1600000 in
theorem markStringSK_any (a : Option Addr) (g off n cap k : Nat) (w : World) (hs : SAny w a g off n) (hn : n ≤ 1048576) (hk : k ≤ 1073741824) :
  Calls Tryz.prog 40 #[.slice a n cap, .int .i64 (k : Int)] w fun e w' => e = .returned (.int .i64 ((k : Int) + n)) ∧ SSeg w' a g off n (fun i => mtx (k + i)) ∧ Mkw g (g + 1) w w' := by
 have HM : Hid (∀ (j : Nat) (W : World), j ≤ n → Calls Tryz.prog 74 #[.int .i64 ((k : Int) + (j : Int))] W fun e w' => e = .returned (.string (mtx (k + j))) ∧ Ext W w') := fun j W hj => by
  have := markTextX_any (k + j) (by omega) W
  rwa [show ((k + j : Nat) : Int) = (k : Int) + (j : Int) by omega] at this
 have Hat := hide hs.at'
 have HS := hide hs
 clear hs
 go_enter Tryz.func40, Tryz.ntmps40
 go_wp2
 go_loopw [1, 5] (fun t i wr => ∃ j : Nat, j ≤ n ∧ i = .int .i64 j ∧ t = .int .i64 ((k : Int) + j) ∧ SAny wr a g off n ∧ (∀ i, i < j → wr.cell? ⟨g, off + i, none⟩ = some (.string (mtx (k + i)))) ∧ Mkw g (g + 1) w wr) (fun _ i _ => n - (intOf i).toNat)
 case atStart => exact ⟨0, Nat.zero_le _, rfl, by go_num, HS.out, fun i hi => absurd hi (Nat.not_lt_zero _), Mkw.refl _ _ _⟩
 case round =>
  clear HS
  obtain ⟨j, hj, rfl, rfl, hO, hX, hT⟩ := hrel
  have HO := hide hO
  have HX := hide hX
  have HT := hide hT
  clear hO hT hX
  by_cases hlt : j < n
  ·obtain rfl := Hat.out (by omega)
   have hjn : (j : Int) < (n : Int) := by omega
   have HMj := hide (HM.out j wr hj)
   obtain ⟨s, hse⟩ : ∃ s, mtx (k + j) = s := ⟨_, rfl⟩
   rw [hse] at HMj
   have Hse := hide hse
   clear hse
   go_wp2_with fail
   refine HMj.out.mono ?_
   rintro e w1 ⟨rfl, hE⟩
   have hO1 := HO.out.of_all hE
   obtain ⟨s0, hc⟩ := hO1.cell j hlt
   have hf := hO1.free j hlt
   have HO' := hide (hO1.set hlt s)
   have HX' : Hid (∀ i, i < j + 1 → (w1.setCell ⟨g, off + j, none⟩ (.string s)).cell? ⟨g, off + i, none⟩ = some (.string (mtx (k + i)))) := hide (fun i hi => by
    by_cases e : i = j
    ·subst e
     rw [Hse.out]
     exact World.cell?_setCell_same _ _ _ hc
    ·rw [World.cell?_setCell_other _ _ _ _ (fun h => by have := congrArg Addr.off h; simp at this; omega)]
     have h2 := HX.out i (by omega)
     exact (Below.cell hE (p := ⟨g, off + i, none⟩) (World.block_lt_of_cell? _ _ h2)).trans h2)
   have HT' := hide ((HT.out.trans (Mkw.of_ext hE)).set (off + j) (.string s) (Nat.le_refl _) (Nat.lt_succ_self _))
   clear hO1 hE HMj HO HT HX
   go_wp2
   go_roundw
   case rel => exact ⟨j + 1, by omega, by go_num, by go_num, HO'.out, HX'.out, HT'.out⟩
   case measure => simp [intOf]; omega
  ·obtain rfl : j = n := by omega
   go_wp2
   go_ret
   exact ⟨rfl, ⟨Hat.out, HX.out⟩, HT.out⟩
set_option maxHeartbeats 1600000 in
theorem heldStringSK_any (a : Option Addr) (g off n cap k : Nat) (w : World) (hs : SSeg w a g off n (fun i => mtx (k + i))) (hn : n ≤ 1048576) (hk : k ≤ 1073741824) :
  Calls Tryz.prog 45 #[.slice a n cap, .int .i64 (k : Int)] w fun e w' => e = .returned (.int .i64 ((k : Int) + n)) ∧ Ext w w' := by
 have HM : Hid (∀ (j : Nat) (W : World), j ≤ n → Calls Tryz.prog 74 #[.int .i64 ((k : Int) + (j : Int))] W fun e w' => e = .returned (.string (mtx (k + j))) ∧ Ext W w') := fun j W hj => by
  have := markTextX_any (k + j) (by omega) W
  rwa [show ((k + j : Nat) : Int) = (k : Int) + (j : Int) by omega] at this
 have HS := hide hs
 clear hs
 go_enter Tryz.func45, Tryz.ntmps45
 go_wp2
 go_loopw [1, 5] (fun t i wr => ∃ j : Nat, j ≤ n ∧ i = .int .i64 j ∧ t = .int .i64 ((k : Int) + j) ∧ Ext w wr) (fun _ i _ => n - (intOf i).toNat)
 case atStart => exact ⟨0, Nat.zero_le _, rfl, by go_num, Ext.refl _⟩
 case round =>
  obtain ⟨j, hj, rfl, rfl, hE⟩ := hrel
  have HE := hide hE
  by_cases hlt : j < n
  ·obtain rfl := HS.out.at' (by omega)
   have hjn : (j : Int) < (n : Int) := by omega
   have c1 := (HS.out.of_all hE).cell j hlt
   have HMj := hide (fun W => HM.out j W hj)
   obtain ⟨s, hse⟩ : ∃ s, mtx (k + j) = s := ⟨_, rfl⟩
   rw [hse] at HMj
   simp only [hse] at c1
   have d1 := fun p : ReC (fun _ => False) wr => cell_reC c1 (fun h => h) p
   have hq : (s.toList == s.toList) = true := eqS_refl s
   clear hse hE c1
   go_wp2_with fail
   refine anyK_begin (fun _ => False) 7 rfl (by kernel_rfl) ?_
   refine anyK_take 0 5 2 rfl (by decide) (by kernel_rfl) (fun _ _ d _ _ h => by cases d <;> exact h) ?_
   repeat (refine headC_step (fun K hK => ?_); go_simp; refine hK _ ?_; clear hK K)
   refine headC_nil ?_
   clear d1
   refine anyK_one 5 (by kernel_rfl) ?_
   refine stepK_run rfl ?_
   intro w3 h3 K2 hK2
   go_simp
   refine (HMj.out w3).mono ?_
   rintro e w4 ⟨rfl, hE4⟩
   have HE4 := hide (h3.trans hE4)
   try go_simp
   refine hK2 _ _ (Grw.of_ext HE4.out) ?_
   clear hK2 K2 h3 hE4
   refine anyK_take 6 1 0 rfl (by decide) (by kernel_rfl) (fun _ _ d _ _ h => by cases d <;> exact h) ?_
   repeat (refine headC_step (fun K hK => ?_); go_simp; refine hK _ ?_; clear hK K)
   refine headC_nil ?_
   refine anyK_done (by kernel_rfl) ?_ 0
   intro w7 h7
   have HE7 := hide (HE.out.trans (HE4.out.trans h7))
   clear h7
   go_wp2
   go_roundw
   case rel => exact ⟨j + 1, by omega, by go_num, by go_num, HE7.out⟩
   case measure => simp [intOf]; omega
  ·obtain rfl : j = n := by omega
   go_wp2
   go_ret
   exact ⟨rfl, HE.out⟩
def AgS (S : Nat → Prop) (w W : World) : Prop := w.heap.size ≤ W.heap.size ∧ ∀ b, S b → b < w.heap.size → W.heap[b]? = w.heap[b]?
theorem AgS.ext {S : Nat → Prop} {w W W' : World} (h : AgS S w W) (e : Ext W W') : AgS S w W' :=
 ⟨Nat.le_trans h.1 (Below.size e), fun b hb hl => (Below.block e b (Nat.lt_of_lt_of_le hl h.1)).trans (h.2 b hb hl)⟩
theorem AgS.sub {S T : Nat → Prop} {w W : World} (h : AgS S w W) (k : ∀ b, T b → S b) : AgS T w W := ⟨h.1, fun b hb => h.2 b (k b hb)⟩
structure Msm (S : Nat → Prop) (w w' : World) : Prop where
 os : w'.os = w.os
 tape : w'.tape = w.tape
 output : w'.output = w.output
 size : w.heap.size ≤ w'.heap.size
 same : ∀ q, q < w.heap.size → ¬ S q → w'.heap[q]? = w.heap[q]?
theorem Msm.of_ext {S : Nat → Prop} {w w' : World} (e : Ext w w') : Msm S w w' := ⟨e.os, e.tape, e.output, Below.size e, fun q hq _ => Below.block e q hq⟩
theorem Msm.trans {S : Nat → Prop} {a b c : World} (h : Msm S a b) (k : Msm S b c) : Msm S a c :=
 ⟨k.os.trans h.os, k.tape.trans h.tape, k.output.trans h.output, Nat.le_trans h.size k.size, fun q hq hn => (k.same q (Nat.lt_of_lt_of_le hq h.size) hn).trans (h.same q hq hn)⟩
theorem Msm.mono {S T : Nat → Prop} {a b : World} (h : Msm S a b) (k : ∀ q, S q → T q) : Msm T a b := ⟨h.os, h.tape, h.output, h.size, fun q hq hn => h.same q hq (fun e => hn (k q e))⟩
theorem Msm.agr {S T : Nat → Prop} {a b : World} (h : Msm S a b) (k : ∀ q, T q → ¬ S q) : AgS T a b := ⟨h.size, fun q hq hl => h.same q hl (k q hq)⟩
theorem AgS.trans {S : Nat → Prop} {a b c : World} (h : AgS S a b) (k : AgS S b c) : AgS S a c := ⟨Nat.le_trans h.1 k.1, fun q hq hl => (k.2 q hq (Nat.lt_of_lt_of_le hl h.1)).trans (h.2 q hq hl)⟩
def HdC (H : Nat) (v : Value) (k k' : Nat) (S : Nat → Prop) (w : World) : Prop := ∀ W, AgS S w W → Calls Tryz.prog H #[v, .int .i64 (k : Int)] W fun e W' => e = .returned (.int .i64 (k' : Int)) ∧ Ext W W'
theorem HdC.agr {H : Nat} {v : Value} {k k' : Nat} {S : Nat → Prop} {w w' : World} (h : HdC H v k k' S w) (e : AgS S w w') : HdC H v k k' S w' := fun W hW => h W (e.trans hW)
def MkC (G H : Nat) (v : Value) (k k' : Nat) (S T : Nat → Prop) (w : World) : Prop := Calls Tryz.prog G #[v, .int .i64 (k : Int)] w fun e w' => e = .returned (.int .i64 (k' : Int)) ∧ Msm S w w' ∧ HdC H v k k' T w'
def One (n g : Nat) (b : Nat) : Prop := 0 < n ∧ b = g
theorem markStrC (a : Option Addr) (g off n cap k : Nat) (w : World) (hs : SAny w a g off n) (hn : n ≤ 1048576) (hk : k ≤ 1073741824) : MkC 40 45 (.slice a n cap) k (k + n) (One n g) (One n g) w := by
 have key : ∀ g', SAny w a g' off n → (0 < n → g' = g) → (n = 0 → w.heap.size < g') → MkC 40 45 (.slice a n cap) k (k + n) (One n g) (One n g) w := by
  intro g' hs' h1 h0
  refine (markStringSK_any a g' off n cap k w hs' hn hk).mono ?_
  rintro e w' ⟨rfl, hS, hM⟩
  refine ⟨by rw [show ((k + n : Nat) : Int) = (k : Int) + n by omega], ⟨hM.os, hM.tape, hM.output, hM.size, fun q hq hne => hM.same q hq ?_⟩, fun W hW => ?_⟩
  ·by_cases n0 : 0 < n
   ·have : q ≠ g' := fun e => hne ⟨n0, by rw [e, h1 n0]⟩
    omega
   ·have := h0 (by omega); omega
  ·have := heldStringSK_any a g' off n cap k W ⟨hS.at', fun j hj => (World.cell?_of_block (a := ⟨g', off + j, none⟩) (hW.2 g' ⟨by omega, h1 (by omega)⟩ (World.block_lt_of_cell? _ _ (hS.cell j hj)))).trans (hS.cell j hj)⟩ hn hk
   rwa [show ((k + n : Nat) : Int) = (k : Int) + n by omega]
 by_cases n0 : 0 < n
 ·exact key g hs (fun _ => rfl) (fun h => by omega)
 ·exact key (w.heap.size + 1) ⟨fun h => absurd h n0, fun i h => absurd (show 0 < n by omega) n0, fun i h => absurd (show 0 < n by omega) n0⟩ (fun h => absurd h n0) (fun _ => Nat.lt_succ_self _)
theorem markIntC (a : Option Addr) (g off n cap k : Nat) (f : Nat → Int) (w : World) (hs : Own w a g off n f) (hn : n ≤ 1048576) (hk : k ≤ 1073741824) : MkC 16 46 (.slice a n cap) k (k + n) (One n g) (One n g) w := by
 have key : ∀ g', Own w a g' off n f → (0 < n → g' = g) → (n = 0 → w.heap.size < g') → MkC 16 46 (.slice a n cap) k (k + n) (One n g) (One n g) w := by
  intro g' hs' h1 h0
  refine (markIntS_any a g' off n cap f (k : Int) w hs' hn (by omega) (by omega)).mono ?_
  rintro e w' ⟨rfl, hS, hT⟩
  refine ⟨by rw [show ((k + n : Nat) : Int) = (k : Int) + n by omega], ⟨hT.grown.os, hT.grown.tape, hT.grown.output, hT.grown.size, fun q hq hne => hT.grown.block q hq ?_⟩, fun W hW => ?_⟩
  ·simp only [ne_eq, Option.some.injEq]
   intro e
   by_cases n0 : 0 < n
   ·exact hne ⟨n0, by rw [e, h1 n0]⟩
   ·have := h0 (by omega); omega
  ·rw [show ((k + n : Nat) : Int) = (k : Int) + n by omega]
   refine (heldIntS_any a g' off n cap (k : Int) W ⟨hS.toSeg.at', fun j hj => (World.cell?_of_block (a := ⟨g', off + j, none⟩) (hW.2 g' ⟨by omega, h1 (by omega)⟩ (World.block_lt_of_cell? _ _ (hS.cell j hj)))).trans (hS.cell j hj)⟩ hn (by omega) (by omega)).mono ?_
   rintro e w2 ⟨h1, rfl⟩
   exact ⟨h1, Ext.refl _⟩
 by_cases n0 : 0 < n
 ·exact key g hs (fun _ => rfl) (fun h => by omega)
 ·exact key (w.heap.size + 1) ⟨⟨fun h => absurd h n0, fun i h => absurd (show 0 < n by omega) n0⟩, fun i h => absurd (show 0 < n by omega) n0⟩ (fun h => absurd h n0) (fun _ => Nat.lt_succ_self _)
theorem markByteC (a : Option Addr) (g off n cap k : Nat) (f : Nat → Int) (w : World) (hs : BOwn w a g off n f) (hn : n ≤ 1048576) (hk : k ≤ 1073741824) : MkC 43 48 (.slice a n cap) k (k + n) (One n g) (One n g) w := by
 have key : ∀ g', BOwn w a g' off n f → (0 < n → g' = g) → (n = 0 → w.heap.size < g') → MkC 43 48 (.slice a n cap) k (k + n) (One n g) (One n g) w := by
  intro g' hs' h1 h0
  refine (markByteS_any a g' off n cap f (k : Int) w hs' hn (by omega) (by omega)).mono ?_
  rintro e w' ⟨rfl, hS, hT⟩
  refine ⟨by rw [show ((k + n : Nat) : Int) = (k : Int) + n by omega], ⟨hT.grown.os, hT.grown.tape, hT.grown.output, hT.grown.size, fun q hq hne => hT.grown.block q hq ?_⟩, fun W hW => ?_⟩
  ·simp only [ne_eq, Option.some.injEq]
   intro e
   by_cases n0 : 0 < n
   ·exact hne ⟨n0, by rw [e, h1 n0]⟩
   ·have := h0 (by omega); omega
  ·rw [show ((k + n : Nat) : Int) = (k : Int) + n by omega]
   refine (heldByteS_any a g' off n cap (k : Int) W ⟨hS.toBSeg.at', fun j hj => (World.cell?_of_block (a := ⟨g', off + j, none⟩) (hW.2 g' ⟨by omega, h1 (by omega)⟩ (World.block_lt_of_cell? _ _ (hS.cell j hj)))).trans (hS.cell j hj)⟩ hn (by omega) (by omega)).mono ?_
   rintro e w2 ⟨h1, rfl⟩
   exact ⟨h1, Ext.refl _⟩
 by_cases n0 : 0 < n
 ·exact key g hs (fun _ => rfl) (fun h => by omega)
 ·exact key (w.heap.size + 1) ⟨⟨fun h => absurd h n0, fun i h => absurd (show 0 < n by omega) n0⟩, fun i h => absurd (show 0 < n by omega) n0⟩ (fun h => absurd h n0) (fun _ => Nat.lt_succ_self _)
theorem Own.blkI {w w' : World} {a : Option Addr} {b o n : Nat} {f : Nat → Int} (h : Own w a b o n f) (e : 0 < n → w'.heap[b]? = w.heap[b]?) : Own w' a b o n f :=
 ⟨⟨h.toSeg.at', fun i hi => (World.cell?_of_block (a := ⟨b, o + i, none⟩) (e (by omega))).trans (h.cell i hi)⟩, fun i hi => (World.frozen?_of_block (a := ⟨b, o + i, none⟩) (e (by omega))).trans (h.free i hi)⟩
structure NOw (w : World) (p : Plc) (q : Nat → Plc) (n : Nat) (ln : Nat → Nat) (f : Nat → Nat → Int) : Prop where
 seg : NSeg w p q n ln f
 own : ∀ i, i < n → Own w (q i).ad (q i).b (q i).off (ln i) (f i)
 sep : ∀ i j, i < n → j < n → i ≠ j → 0 < ln i → 0 < ln j → (q i).b ≠ (q j).b
 out : ∀ i, i < n → 0 < ln i → (q i).b ≠ p.b
def NsS (q : Nat → Plc) (n : Nat) (ln : Nat → Nat) (b : Nat) : Prop := ∃ i, i < n ∧ One (ln i) (q i).b b
def NsT (p : Plc) (q : Nat → Plc) (n : Nat) (ln : Nat → Nat) (b : Nat) : Prop := One n p.b b ∨ NsS q n ln b
set_option maxHeartbeats 3200000 in
theorem markNetsC (p : Plc) (q : Nat → Plc) (n k : Nat) (ln : Nat → Nat) (f : Nat → Nat → Int) (w : World) (hO : NOw w p q n ln f) (hn : n ≤ 1048576) (hl : ∀ i, i < n → ln i ≤ 1048576) (hk : k + preS ln n ≤ 1073741824) :
  MkC 44 47 (.slice p.ad n p.cap) k (k + preS ln n) (NsS q n ln) (NsT p q n ln) w := by
 obtain ⟨ad, b, off, cap⟩ := p
 dsimp only
 have HO := hide hO
 have Hl := hide hl
 have Hk := hide hk
 have main : Calls Tryz.prog 44 #[.slice ad n cap, .int .i64 (k : Int)] w fun e w' => e = .returned (.int .i64 ((k + preS ln n : Nat) : Int)) ∧ Msm (NsS q n ln) w w' ∧ ∀ i, i < n → HdC 46 (.slice (q i).ad (ln i) (q i).cap) (k + preS ln i) (k + preS ln (i + 1)) (One (ln i) (q i).b) w' := by
  have hk0 : k ≤ 1073741824 := by omega
  clear hO hl hk
  go_enter Tryz.func44, Tryz.ntmps44
  go_wp2
  go_loopw [1, 5] (fun t i wr => ∃ j : Nat, j ≤ n ∧ i = .int .i64 (j : Int) ∧ t = .int .i64 ((k + preS ln j : Nat) : Int) ∧ Msm (NsS q j ln) w wr ∧ ∀ i, i < j → HdC 46 (.slice (q i).ad (ln i) (q i).cap) (k + preS ln i) (k + preS ln (i + 1)) (One (ln i) (q i).b) wr) (fun _ i _ => n - (intOf i).toNat)
  case atStart => exact ⟨0, Nat.zero_le _, rfl, rfl, Msm.of_ext (Ext.refl _), fun i hi => absurd hi (Nat.not_lt_zero _)⟩
  case round =>
   obtain ⟨j, hj, rfl, rfl, hM, hH⟩ := hrel
   have HM := hide hM
   have HH := hide hH
   clear hM hH
   by_cases hlt : j < n
   ·have hat := HO.out.seg.at' (by omega)
    dsimp only at hat
    subst hat
    have hjn : (j : Int) < (n : Int) := by omega
    have c0 := HO.out.seg.cell j hlt
    dsimp only at c0
    have c1 : wr.cell? ⟨b, off + j, none⟩ = some (.slice (q j).ad (ln j) (q j).cap) := (World.cell?_of_block (a := ⟨b, off + j, none⟩) (HM.out.same b (World.block_lt_of_cell? _ _ c0) (by
     rintro ⟨i, hi, h0, e⟩
     exact HO.out.out i (by omega) h0 e.symm))).trans c0
    have hown : Own wr (q j).ad (q j).b (q j).off (ln j) (f j) := Own.blkI (HO.out.own j hlt) (fun h0 => HM.out.same _ ((HO.out.own j hlt).lt h0) (by
     rintro ⟨i, hi, h1, e⟩
     exact HO.out.sep i j (by omega) hlt (by omega) h1 h0 e.symm))
    have HC := hide (markIntC (q j).ad (q j).b (q j).off (ln j) (q j).cap (k + preS ln j) (f j) wr hown (Hl.out j hlt) (by have := preS_le ln (i := j) (n := n) (by omega); have := Hk.out; omega))
    clear hown c0
    obtain ⟨kj, hkj⟩ : ∃ z, k + preS ln j = z := ⟨_, rfl⟩
    have hk1 : k + preS ln (j + 1) = kj + ln j := by show k + (preS ln j + ln j) = _; omega
    rw [hkj] at HC
    unfold MkC at HC
    simp only [hkj]
    have Hk1 := hide hk1
    have Hkj := hide hkj
    clear hk1 hkj
    go_wp2_with fail
    refine HC.out.mono ?_
    rintro e w1 ⟨rfl, hm, hh⟩
    have HM1 : Hid (Msm (NsS q (j + 1) ln) w w1) := hide ((HM.out.mono (fun x ⟨i, hi, h⟩ => ⟨i, by omega, h⟩)).trans (hm.mono (fun x h => ⟨j, by omega, h⟩)))
    have HH1 : Hid (∀ i, i < j + 1 → HdC 46 (.slice (q i).ad (ln i) (q i).cap) (k + preS ln i) (k + preS ln (i + 1)) (One (ln i) (q i).b) w1) := hide (fun i hi => by
     by_cases e : i = j
     ·subst e
      rw [Hk1.out, Hkj.out]
      exact hh
     ·refine (HH.out i (by omega)).agr (hm.agr ?_)
      rintro x ⟨h0, rfl⟩ ⟨h1, e2⟩
      exact HO.out.sep i j (by omega) hlt e h0 h1 e2)
    clear hm hh HC HM HH c1
    go_wp2
    go_roundw
    case rel => exact ⟨j + 1, by omega, by go_num, by rw [Hk1.out]; first | rfl | simp, HM1.out, HH1.out⟩
    case measure => simp [intOf]; omega
   ·obtain rfl : j = n := by omega
    go_wp2
    go_ret
    exact ⟨rfl, HM.out, HH.out⟩
 refine main.mono ?_
 rintro e w' ⟨rfl, hM, hH⟩
 refine ⟨rfl, hM, fun W hW => ?_⟩
 have HH : Hid (∀ i, i < n → ∀ W', Ext W W' → Calls Tryz.prog 46 #[.slice (q i).ad (ln i) (q i).cap, .int .i64 ((k + preS ln i : Nat) : Int)] W' fun e W2 => e = .returned (.int .i64 ((k + preS ln (i + 1) : Nat) : Int)) ∧ Ext W' W2) := hide (fun i hi W' hE => hH i hi W' ((hW.ext hE).sub (fun x h => .inr ⟨i, hi, h⟩)))
 have HC : Hid (∀ i, i < n → W.cell? ⟨b, off + i, none⟩ = some (.slice (q i).ad (ln i) (q i).cap)) := hide (fun i hi => by
  have c0 := HO.out.seg.cell i hi
  dsimp only at c0
  have hb := World.block_lt_of_cell? _ _ c0
  have e1 : w'.heap[b]? = w.heap[b]? := hM.same b hb (by
   rintro ⟨i, hi, h0, e⟩
   exact HO.out.out i (by omega) h0 e.symm)
  have e2 : W.heap[b]? = w'.heap[b]? := hW.2 b (.inl ⟨by omega, rfl⟩) (Nat.lt_of_lt_of_le hb hM.size)
  exact (World.cell?_of_block (a := ⟨b, off + i, none⟩) (e2.trans e1)).trans c0)
 have Hat := hide HO.out.seg.at'
 clear main hM hH hW hO hl hk HO
 dsimp only at Hat
 go_enter Tryz.func47, Tryz.ntmps47
 go_wp2
 go_loopw [1, 5] (fun t i wr => ∃ j : Nat, j ≤ n ∧ i = .int .i64 (j : Int) ∧ t = .int .i64 ((k + preS ln j : Nat) : Int) ∧ Ext W wr) (fun _ i _ => n - (intOf i).toNat)
 case atStart => exact ⟨0, Nat.zero_le _, rfl, rfl, Ext.refl _⟩
 case round =>
  obtain ⟨j, hj, rfl, rfl, hE⟩ := hrel
  have HE := hide hE
  by_cases hlt : j < n
  ·have hat := Hat.out (by omega)
   subst hat
   have hjn : (j : Int) < (n : Int) := by omega
   have c0 := HC.out j hlt
   have c1 := (Below.cell hE (p := ⟨b, off + j, none⟩) (World.block_lt_of_cell? _ _ c0)).trans c0
   have HCj := hide (HH.out j hlt wr hE)
   obtain ⟨kj, hkj⟩ : ∃ z, k + preS ln j = z := ⟨_, rfl⟩
   obtain ⟨k1, hk1⟩ : ∃ z, k + preS ln (j + 1) = z := ⟨_, rfl⟩
   rw [hkj, hk1] at HCj
   simp only [hkj]
   have hk0 : ¬ ((k1 : Int) < 0) := by omega
   have Hk1 := hide hk1
   clear hkj hk1 hE c0
   go_wp2_with fail
   refine HCj.out.mono ?_
   rintro e w1 ⟨rfl, hE1⟩
   have HE1 := hide (HE.out.trans hE1)
   clear hE1 HCj HE c1
   go_wp2
   go_roundw
   case rel => exact ⟨j + 1, by omega, by go_num, by rw [Hk1.out], HE1.out⟩
   case measure => simp [intOf]; omega
  ·obtain rfl : j = n := by omega
   go_wp2
   go_ret
   exact ⟨rfl, HE.out⟩
structure NMk (w wr : World) (n j : Nat) (q : Nat → Plc) (ln : Nat → Nat) (f : Nat → Nat → Int) : Prop where
 below : Ext w wr
 lt : w.heap.size < wr.heap.size
 row : wr.rowIs w.heap.size 23 n (fun i => if i < j then .slice (q i).ad (ln i) (q i).cap else .slice none 0 0)
 own : ∀ i, i < j → Own wr (q i).ad (q i).b (q i).off (ln i) (f i) ∧ (0 < ln i → w.heap.size < (q i).b ∧ (q i).b < wr.heap.size)
 inc : ∀ i i', i < i' → i' < j → 0 < ln i → 0 < ln i' → (q i).b < (q i').b
theorem NMk.step {w wr w1 : World} {n j : Nat} {q : Nat → Plc} {ln : Nat → Nat} {f : Nat → Nat → Int} (h : NMk w wr n j q ln f) {q' : Plc} (hj : j < n) (hc : CpIs wr w1 (ln j) (f j) q') (hE : Ext wr w1) : NMk w (w1.setCell ⟨w.heap.size, j, none⟩ (.slice q'.ad (ln j) q'.cap)) n (j + 1) (fun i => if i = j then q' else q i) ln f := by
 have hz := Below.size hE
 have hrow := rowIs_below h.row hE h.lt
 have hb : ∀ b, b ≠ w.heap.size → (w1.setCell ⟨w.heap.size, j, none⟩ (.slice q'.ad (ln j) q'.cap)).heap[b]? = w1.heap[b]? := fun b hne => Below.heap_setCell _ _ _ _ hne
 have hsz : (w1.setCell ⟨w.heap.size, j, none⟩ (.slice q'.ad (ln j) q'.cap)).heap.size = w1.heap.size := by simp [World.setCell]
 refine ⟨Below.setCell (h.below.trans hE) (Nat.le_refl _) _, by rw [hsz]; have := h.lt; omega, (hrow.set j _).congr (fun i _ => ?_), fun i hi => ?_, fun i i' h1 h2 h3 h4 => ?_⟩
 ·by_cases e : i = j
  ·subst e
   rw [if_pos rfl, if_pos (by omega)]
   simp
  ·rw [if_neg e]
   by_cases h1 : i < j
   ·rw [if_pos h1, if_pos (by omega)]
    simp [e]
   ·rw [if_neg h1, if_neg (by omega)]
 ·rw [hsz]
  by_cases e : i = j
  ·subst e
   simp only [if_true]
   obtain ⟨h1, h2⟩ := hc w1 ⟨Nat.le_refl _, fun _ _ _ => rfl⟩
   exact ⟨h1.blkI (fun h0 => hb _ (by have := (h2 h0).1; have := h.lt; omega)), fun h0 => by have := h2 h0; have := h.lt; omega⟩
  ·simp only [e, if_false]
   obtain ⟨h1, h2⟩ := h.own i (by omega)
   refine ⟨h1.blkI (fun h0 => (hb _ (by have := (h2 h0).1; omega)).trans (Below.block hE _ (h2 h0).2)), fun h0 => by have := h2 h0; omega⟩
 ·by_cases e : i' = j
  ·subst e
   simp only [if_true, show i ≠ i' by omega, if_false]
   have k1 := (h.own i h1).2 h3
   have k2 := (hc w1 ⟨Nat.le_refl _, fun _ _ _ => rfl⟩).2 h4
   omega
  ·simp only [e, show i ≠ j by omega, if_false]
   exact h.inc i i' h1 (by omega) h3 h4
def CpNs (W w' : World) (n : Nat) (ln : Nat → Nat) (f : Nat → Nat → Int) (r : Plc × (Nat → Plc)) : Prop :=
 ∀ w'', Kp W.heap.size w' w'' → NOw w'' r.1 r.2 n ln f ∧ ∀ b, NsT r.1 r.2 n ln b → W.heap.size ≤ b ∧ b < w'.heap.size
theorem NMk.done {w w' : World} {n : Nat} {q : Nat → Plc} {ln : Nat → Nat} {f : Nat → Nat → Int} (h : NMk w w' n n q ln f) : CpNs w w' n ln f (⟨some ⟨w.heap.size, 0, none⟩, w.heap.size, 0, n⟩, q) := fun w'' k => by
 have hr : w''.heap[w.heap.size]? = w'.heap[w.heap.size]? := k.2 _ (Nat.le_refl _) h.lt
 have ho : ∀ i, i < n → Own w'' (q i).ad (q i).b (q i).off (ln i) (f i) := fun i hi => (h.own i hi).1.blkI (fun h0 => k.2 _ (by have := ((h.own i hi).2 h0).1; omega) ((h.own i hi).2 h0).2)
 refine ⟨⟨⟨fun _ => rfl, fun i hi => ?_, fun i hi => (ho i hi).toSeg⟩, ho, fun i i' h1 h2 hne h3 h4 => ?_, fun i hi h0 => by have := ((h.own i hi).2 h0).1; show (q i).b ≠ w.heap.size; omega⟩, fun b hb => ?_⟩
 ·show w''.cell? ⟨w.heap.size, 0 + i, none⟩ = _
  rw [Nat.zero_add]
  refine (World.cell?_of_block (a := ⟨w.heap.size, i, none⟩) hr).trans ?_
  rw [h.row.cell hi, if_pos hi]
 ·rcases Nat.lt_or_gt_of_ne hne with e | e
  ·have := h.inc i i' e h2 h3 h4; show (q i).b ≠ (q i').b; omega
  ·have := h.inc i' i e h1 h4 h3; show (q i).b ≠ (q i').b; omega
 ·rcases hb with ⟨-, rfl⟩ | ⟨i, hi, h0, rfl⟩
  ·exact ⟨Nat.le_refl _, h.lt⟩
  ·have := (h.own i hi).2 h0; show w.heap.size ≤ (q i).b ∧ (q i).b < _; omega
set_option maxHeartbeats 1600000 in
theorem cloneNet_any (p : Plc) (n : Nat) (f : Nat → Int) (w : World) (hB : Seg w p.ad p.b p.off n f) (hn : n ≤ 1099511627776) : Calls Tryz.prog 90 #[.slice p.ad n p.cap] w fun e w' => ∃ q : Plc, e = .returned (.slice q.ad n q.cap) ∧ CpIs w w' n f q ∧ Ext w w' := by
 have HC := hide (cloneI_any p n f w hB hn)
 clear hB
 go_enter Tryz.func90, Tryz.ntmps90
 go_wp2_with fail
 refine HC.out.mono ?_
 rintro e w1 ⟨q, rfl, hc, hE⟩
 have Hc := hide hc
 have HE := hide hE
 clear hc hE HC
 go_wp2
 go_ret
 exact ⟨q, rfl, Hc.out, HE.out⟩
set_option maxHeartbeats 3200000 in
set_option maxRecDepth 100000 in
theorem mappedNets_any (p : Plc) (q : Nat → Plc) (n : Nat) (ln : Nat → Nat) (f : Nat → Nat → Int) (w : World) (hs : NSeg w p q n ln f) (hn : n ≤ 1048576) (hl : ∀ i, i < n → ln i ≤ 1048576) :
  Calls Tryz.prog 89 #[.slice p.ad n p.cap, .func (.func 90) #[] #[]] w fun e w' => ∃ r : Plc × (Nat → Plc), e = .returned (.slice r.1.ad n r.1.cap) ∧ CpNs w w' n ln f r ∧ Ext w w' := by
 obtain ⟨ad, b, off, cap⟩ := p
 dsimp only
 have hmk := run_make_row' (P := Tryz.prog) 34 23 (.slice none 0 0) 24 Tryz.underlying34 Tryz.infoIS rfl .i64 .i64 n (by omega) (by omega)
 have Hs := hide hs
 have Hl := hide hl
 have H0 : Hid (NMk w (w.alloc (.cells (madeCells #[.slice none 0 0] n) 23)) n 0 (fun _ => ⟨none, 0, 0, 0⟩) ln f) := hide ⟨Ext.alloc _ _, by simp, (World.rowIs_made w _ n 23).congr (fun j _ => by simp), fun i hi => absurd hi (Nat.not_lt_zero _), fun i i' _ h => absurd h (Nat.not_lt_zero _)⟩
 clear hs hl
 go_enter Tryz.func89, Tryz.ntmps89
 go_wp2
 clear hmk
 go_loopw [6, 7, 13] (fun _ _ i wr => ∃ (j : Nat) (r : Nat → Plc), j ≤ n ∧ i = .int .i64 (j : Int) ∧ NMk w wr n j r ln f) (fun _ _ i _ => n - (intOf i).toNat)
 case atStart => exact ⟨0, _, Nat.zero_le _, rfl, H0.out⟩
 case round =>
  clear H0
  obtain ⟨j, r, hj, rfl, hI⟩ := hrel
  have HI := hide hI
  by_cases hlt : j < n
  ·have hs' := Hs.out.of_all hI.below
   have hat := Hs.out.at' (by omega)
   dsimp only at hat
   subst hat
   have c1 := hs'.cell j hlt
   dsimp only at c1
   have HT : Hid (∀ W, Ext wr W → Calls Tryz.prog 90 #[.slice (q j).ad (ln j) (q j).cap] W fun e w' => ∃ q' : Plc, e = .returned (.slice q'.ad (ln j) q'.cap) ∧ CpIs W w' (ln j) (f j) q' ∧ Ext W w') := hide (fun W hW => cloneNet_any (q j) (ln j) (f j) W ((hs'.row j hlt).of_all hW) (by have := Hl.out j hlt; omega))
   have hG : ∀ (args : Array Value) (w : World), (callFunc 90 args).run Tryz.prog w = .ok (.enter 90 args) w := fun _ _ => by kernel_rfl
   have hjn : (j : Int) < (n : Int) := by omega
   clear hI hs'
   go_wp2_with fail
   refine (HT.out _ (Ext.refl _)).mono ?_
   rintro e W ⟨q', rfl, hc, hE⟩
   have hrow := rowIs_below HI.out.row hE HI.out.lt
   have r0 : W.cell? ⟨w.heap.size, j, none⟩ = some (.slice none 0 0) := (hrow.cell hlt).trans (by simp)
   have f0 := hrow.frozen j
   have HJ := hide (HI.out.step hlt hc hE)
   clear hrow hc hE HI HT hG
   go_wp2
   go_roundw
   case rel => exact ⟨j + 1, _, by omega, by go_num, HJ.out⟩
   case measure => simp [intOf]; omega
  ·obtain rfl : j = n := by omega
   clear hI
   go_wp2
   go_ret
   exact ⟨(⟨some ⟨w.heap.size, 0, none⟩, w.heap.size, 0, j⟩, r), rfl, HI.out.done, HI.out.below⟩
end
section
open Go Go.Sort Go.RowKit
section
variable {P : Program} {ops opsA : Array Oper} {md : Region.Mode} {Q QA : Exit → Act → World → Prop} {C C0 : World → Prop}
theorem wp_mono2 {o : Oper} {a : Act} {w : World} {K K' : Act → World → Prop} (h : ∀ a w, K a w → K' a w) (hq : ∀ c a w, QA (.panic c) a w → Q (.panic c) a w) (hl : LetsOut QA → LetsOut Q)
  (hh : o.wp P a w K QA) : o.wp P a w K' Q := by
 unfold Oper.wp at *
 generalize (execOp a.eval o).run P w = r at *
 cases r with
 | ok n w' =>
  cases n <;> simp only [Oper.upon] at hh ⊢ <;>
   first
    | exact h _ _ hh
    | exact Calls.mono hh (fun e w'' he => by cases e <;> first | exact h _ _ he | exact hq _ _ _ he | exact hl he)
    | exact Rows.mono hh (fun _ _ he => h _ _ he)
    | exact hl hh
    | exact hh
 | halt x w' => cases x <;> simp only [Oper.upon] at hh ⊢ <;> first | exact hq _ _ _ hh | exact hl hh | exact hh
theorem anyS_fuel : ∀ (f : Nat) (l : Array Bool) (a : Act) (G : World → Prop), anyS P md ops Q C f l a G → anyS P md ops Q C (f + 1) l a G
 | 0, l, a, G, h => ⟨fun _ => h.2, by rw [h.1]; intro i hi; cases hi⟩
 | f + 1, l, a, G, h => ⟨h.1, fun i hi w hw => wpOp_mono (fun a' w' ⟨G', k1, k2, k3⟩ => ⟨G', k1, k2, anyS_fuel f _ _ _ k3⟩) (h.2 i hi w hw)⟩
theorem anyS_point {f : Nat} {l : Array Bool} {a : Act} {G : World → Prop} (h : ∀ w, G w → ∃ G', G' w ∧ anyS P md ops Q C (f + 1) l a G') : anyS P md ops Q C (f + 1) l a G :=
 ⟨fun e w hw => by obtain ⟨G', k1, k2⟩ := h w hw; exact k2.1 e w k1, fun i hi w hw => by obtain ⟨G', k1, k2⟩ := h w hw; exact k2.2 i hi w k1⟩
def masks : Nat → List (List Bool)
 | 0 => [[]]
 | n + 1 => (masks n).flatMap fun t => [true :: t, false :: t]
theorem mem_masks : ∀ (l : List Bool), l ∈ masks l.length
 | [] => by simp [masks]
 | b :: t => by
  rw [List.length_cons, masks, List.mem_flatMap]
  exact ⟨t, mem_masks t, by cases b <;> simp⟩
def shutB (md : Region.Mode) (opsA : Array Oper) (l : List Bool) : Bool :=
 (List.range l.length).all fun i => !l.toArray.getD i true || ((opsA[i]?).map (·.after.all fun e => !Region.binds md e || l.toArray.getD e.on false)).getD false
theorem getD_up {l : List Bool} {i j : Nat} (h : l.toArray.getD j false = true) : (l.set i true).toArray.getD j false = true := by
 simp only [Array.getD_eq_getD_getElem?, List.getElem?_toArray] at h ⊢
 rw [List.getElem?_set]
 by_cases e : i = j
 ·subst e
  rw [if_pos rfl]
  by_cases hl : i < l.length
  ·rw [if_pos hl]; rfl
  ·rw [List.getElem?_eq_none (by omega)] at h; cases h
 ·rw [if_neg e]; exact h
theorem shut_step {l : List Bool} {i : Nat} (h : shutB md opsA l = true) (hi : i ∈ Region.ready md opsA l.toArray) : shutB md opsA (l.set i true) = true := by
 unfold shutB at *
 rw [List.all_eq_true] at *
 intro k hk
 rw [List.length_set] at hk
 have up : ∀ o : Oper, (o.after.all fun e => !Region.binds md e || l.toArray.getD e.on false) = true → (o.after.all fun e => !Region.binds md e || (l.set i true).toArray.getD e.on false) = true := by
  intro o ho
  rw [Array.all_eq_true_iff_forall_mem] at *
  intro e he
  have := ho e he
  rw [Bool.or_eq_true] at *
  exact this.imp id getD_up
 have upO : ∀ o : Option Oper, (o.map (·.after.all fun e => !Region.binds md e || l.toArray.getD e.on false)).getD false = true → (o.map (·.after.all fun e => !Region.binds md e || (l.set i true).toArray.getD e.on false)).getD false = true := by
  intro o ho
  cases o with
  | none => exact ho
  | some o => exact up o ho
 by_cases e : k = i
 ·subst e
  have := (List.mem_filter.1 hi).2
  rw [Bool.and_eq_true] at this
  rw [upO _ this.2, Bool.or_true]
 ·have := h k hk
  rw [Bool.or_eq_true] at this ⊢
  refine this.imp (fun h1 => ?_) (upO _)
  simp only [Array.getD_eq_getD_getElem?, List.getElem?_toArray] at h1 ⊢
  rw [List.getElem?_set_ne (fun h => e h.symm)]
  exact h1
def phaseB (md : Region.Mode) (ops opsA : Array Oper) (nA nB : Nat) : Bool :=
 (Region.ready md opsA (Array.replicate nA true)).isEmpty && ((masks nA).all fun l => l.all id || !shutB md opsA l || (decide (Region.ready md ops (l ++ List.replicate nB false).toArray = Region.ready md opsA l.toArray) && !(Region.ready md opsA l.toArray).isEmpty)) && (opsA.toList.all fun o => o.guard.isNone) && decide (opsA.size = nA) && shutB md opsA (List.replicate nA false)
theorem anyS_phase {nA nB fB : Nat} (hB : phaseB md ops opsA nA nB = true) (hops : ∀ i, i < nA → ops[i]? = opsA[i]?) (hC : ∀ w, C0 w → C w) (hq : ∀ c a w, QA (.panic c) a w → Q (.panic c) a w) (hl : LetsOut QA → LetsOut Q)
  (hQ : ∀ a w, QA .normal a w → C0 w → ∃ G', G' w ∧ anyS P md ops Q C (fB + 1) (List.replicate nA true ++ List.replicate nB false).toArray a G') :
  ∀ (f : Nat) (l : List Bool) (a : Act) (G : World → Prop), l.length = nA → shutB md opsA l = true → Kept C0 G → anyS P md opsA QA C0 f l.toArray a G → anyS P md ops Q C (f + (fB + 1)) (l ++ List.replicate nB false).toArray a G := by
 unfold phaseB at hB
 simp only [Bool.and_eq_true, List.all_eq_true, decide_eq_true_eq, List.isEmpty_iff, Bool.or_eq_true, Bool.not_eq_true', id] at hB
 obtain ⟨⟨⟨⟨hT, hM⟩, hG⟩, hS⟩, hZ⟩ := hB
 have full : ∀ l : List Bool, l.length = nA → (∀ b ∈ l, b = true) → l = List.replicate nA true := fun l h1 h2 => List.eq_replicate_iff.2 ⟨h1, h2⟩
 have hend : ∀ (f : Nat) (a : Act) (G : World → Prop), Kept C0 G → (∀ w, G w → QA .normal a w) → anyS P md ops Q C (f + (fB + 1)) (List.replicate nA true ++ List.replicate nB false).toArray a G := by
  intro f a G hK hN
  induction f with
  | zero =>
   rw [Nat.zero_add]
   refine anyS_point (fun w hw => ?_)
   obtain ⟨G', k1, k2⟩ := hQ a w (hN w hw) (hK.sub w hw)
   exact ⟨G', k1, k2⟩
  | succ f ih => rw [show f + 1 + (fB + 1) = f + (fB + 1) + 1 by omega]; exact anyS_fuel _ _ _ _ ih
 intro f
 induction f with
 | zero =>
  intro l a G hn hz hK h
  have hm := hM l (by rw [← hn]; exact mem_masks l)
  rw [hz] at hm
  simp only [Bool.true_eq_false, or_false] at hm
  rcases hm with hm | ⟨-, hm⟩
  ·rw [full l hn hm]; exact hend 0 a G hK h.2
  ·rw [h.1] at hm; simp at hm
 | succ f ih =>
  intro l a G hn hz hK h
  have hm := hM l (by rw [← hn]; exact mem_masks l)
  rw [hz] at hm
  simp only [Bool.true_eq_false, or_false] at hm
  rcases hm with hm | ⟨he, hm⟩
  ·rw [full l hn hm] at h ⊢
   exact hend (f + 1) a G hK (h.1 (by simpa using hT))
  ·rw [show f + 1 + (fB + 1) = f + (fB + 1) + 1 by omega]
   refine ⟨fun e => ?_, fun i hi w hw => ?_⟩
   ·rw [he] at e; rw [e] at hm; simp at hm
   ·rw [he] at hi
    have hi2 : i < nA := by
     have := (List.mem_filter.1 hi).1
     rw [List.mem_range] at this
     omega
    have hw2 := h.2 i hi w hw
    unfold wpOp at hw2 ⊢
    rw [hops i hi2]
    have hlt : i < opsA.size := by omega
    rw [Array.getElem?_eq_getElem hlt] at hw2 ⊢
    have hg : (opsA[i]).guard = none := by
     have := hG (opsA[i]) (by simp)
     simpa using this
    have w1 : ∀ y, Region.wanted opsA[i] y = true := fun y => by unfold Region.wanted; rw [hg]
    simp only [w1, if_true] at hw2 ⊢
    have hstep : ∀ a' w', (∃ G', Kept C0 G' ∧ G' w' ∧ anyS P md opsA QA C0 f (l.toArray.setIfInBounds i true) a' G') → ∃ G', Kept C G' ∧ G' w' ∧ anyS P md ops Q C (f + (fB + 1)) ((l ++ List.replicate nB false).toArray.setIfInBounds i true) a' G' := by
     rintro a' w' ⟨G', k1, k2, k3⟩
     refine ⟨G', ⟨fun w h => hC w (k1.sub w h), k1.up⟩, k2, ?_⟩
     have e1 : l.toArray.setIfInBounds i true = (l.set i true).toArray := by simp
     have e2 : (l ++ List.replicate nB false).toArray.setIfInBounds i true = (l.set i true ++ List.replicate nB false).toArray := by
      rw [List.setIfInBounds_toArray, List.set_append_left _ _ (by omega)]
     rw [e2]
     rw [e1] at k3
     exact ih (l.set i true) a' G' (by simpa using hn) (shut_step hz hi) k1 k3
    exact hw2.imp (wp_mono2 hstep hq hl) (fun h => ⟨h.1, hl h.2⟩)
def thenK (P : Program) (md : Region.Mode) (ops : Array Oper) (Q : Exit → Act → World → Prop) (X : Nat → Prop) (V : World) (f : Nat) (listed : Array Bool) : Exit → Act → World → Prop
 | .normal, a, w => anyK P md ops Q X V f listed a w
 | e, a, w => Q e a w
theorem anyK_phase {l : List Oper} {X0 X : Nat → Prop} {V W : World} {a : Act} (nA nB fB : Nat) {m N : Nat} (hm : nA + (fB + 1) = m) (hN : nA + nB = N) (hn : nA ≤ l.length) (hB : phaseB md l.toArray (l.take nA).toArray nA nB = true) (hX : ∀ q, X0 q → X q) (h0 : Grw X0 V W)
  (h : anyK P md (l.take nA).toArray (thenK P md l.toArray Q X V (fB + 1) (List.replicate nA true ++ List.replicate nB false).toArray) X0 V nA (Array.replicate nA false) a W) : anyK P md l.toArray Q X V m (Array.replicate N false) a W := by
 intro _
 subst hm hN
 have k := anyS_phase (P := P) (Q := Q) (QA := thenK P md l.toArray Q X V (fB + 1) (List.replicate nA true ++ List.replicate nB false).toArray) (C0 := Grw X0 V) (C := Grw X V) (fB := fB) hB (fun i hi => by simp [List.getElem?_take, hi]) (fun w hw => hw.mono hX) (fun c a w hh => hh) (fun hh => hh) (fun a w hh hw => ⟨Ext w, Ext.refl _, hh (hw.mono hX)⟩) nA (List.replicate nA false) a (Ext W) (by simp) (by unfold phaseB at hB; rw [Bool.and_eq_true] at hB; exact hB.2) (kept_grw h0) (by simpa using h h0)
 have e : (List.replicate nA false ++ List.replicate nB false).toArray = Array.replicate (nA + nB) false := by simp [List.replicate_append_replicate]
 rwa [e] at k
end
end
section
open Go.RowKit
theorem l1In_int (x a b : Int) (w : World) : Calls Tryz.prog 23 #[.int .i64 x, .int .i64 a, .int .i64 b] w fun e w' => e = .returned (.bool (decide (a ≤ x) && decide (x ≤ b))) ∧ w' = w := by
 by_cases h1 : a ≤ x
 ·by_cases h2 : x ≤ b
  ·go_enter Tryz.func23, Tryz.ntmps23
   go_wp2
   go_ret
   exact ⟨ret_bool (by rw [decide_eq_true (by omega : a ≤ x), decide_eq_true (by omega : x ≤ b)]; rfl), rfl⟩
  ·go_enter Tryz.func23, Tryz.ntmps23
   go_wp2
   go_ret
   exact ⟨ret_bool (by simp; omega), rfl⟩
 ·go_enter Tryz.func23, Tryz.ntmps23
  go_wp2
  go_ret
  exact ⟨ret_bool (by rw [decide_eq_false (by omega : ¬ a ≤ x)]; rfl), rfl⟩
end
end Go.Proofs.YtfhiiakoilkbkaaGreatDoor
