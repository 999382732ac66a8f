/- Proved: at every stream and every list of bytes the law FnExactFeed answers true: the program's Feed answers as the model's, writes into no argument, and its answer owns its memory, behind another call too (beyond 1048576 bytes of either the law itself answers true at once). No other condition. -/
import Derived.Test.YthgdempjpndhgaaRows
import Derived.WalkKit
import Derived.ProofKit
import Derived.OpenShut
import Derived.ShutString
import Derived.ChangeOld
import Derived.Below
import Derived.Test.YthgdempjpndhgaaShaI
namespace Go.Proofs.Ythgdempjpndhgaa.fnExactFeed
open Go.ChangeShapes Go.WideShapes Go.ChangeAt Go.RowKit
open Go.ChangeMaps (open_string shut_string)
set_option linter.unusedVariables false
set_option linter.unusedSimpArgs false

theorem own : ownKnob Try.prog.godebug = none := by kernel_rfl
theorem laidOut : laidOutB Try.prog = true := by kernel_rfl

/-- A slice of integers that came in: nil, or a row of cap cells, the numbers zs. -/
def IsRow (k : IntKind) (w : World) (a : Option Addr) (len cap : Nat) (zs : List Int) : Prop :=
  (a = none ∧ len = 0 ∧ cap = 0 ∧ zs = []) ∨
  ∃ x, a = some x ∧ len ≤ cap ∧ cap ≤ maxLen ∧ zs.length = cap ∧ (∀ i, i < zs.length → w.cell? (x.add i) = some (.int k (zs.getD i 0))) ∧ ∀ n ∈ zs, (Lit.int k n).wf = true

/-- In the midst of the law: the blocks that it made. -/
structure FAt (w W : World) (h0 h1 h2 h3 h4 h5 h6 h7 many : Int) (r : Option Addr) (n cap : Nat) (u0 u1 u2 u3 u4 u5 u6 u7 mn : Int) (N : Nat) (F : Nat → Int) (S6 S8 S10 : Nat) (a3 : Option Addr) (g3 c3 g4 : Nat) (f4 : Nat → Int) (d4 m : Nat) (fx : Nat → Int) (a6 : Option Addr) (g6 c6 : Nat) (F6 : Nat → Int) : Prop where
  e : Ext w W
  b0 : Blk W w.heap.size [.int .i64 h0, .int .i64 h1, .int .i64 h2, .int .i64 h3, .int .i64 h4, .int .i64 h5, .int .i64 h6, .int .i64 h7, .slice r n cap, .int .i64 many]
  t6 : Blk W S6 [.int .i64 u0, .int .i64 u1, .int .i64 u2, .int .i64 u3, .int .i64 u4, .int .i64 u5, .int .i64 u6, .int .i64 u7, .slice a3 N c3, .int .i64 mn]
  t8 : Blk W S8 [.int .i64 h0, .int .i64 h1, .int .i64 h2, .int .i64 h3, .int .i64 h4, .int .i64 h5, .int .i64 h6, .int .i64 h7, .slice (some ⟨g4, 0, none⟩) n n, .int .i64 many]
  t10 : Blk W S10 [.int .i64 u0, .int .i64 u1, .int .i64 u2, .int .i64 u3, .int .i64 u4, .int .i64 u5, .int .i64 u6, .int .i64 u7, .slice a6 N c6, .int .i64 mn]
  s3 : BSeg W a3 g3 0 N F
  r4 : BOwn W (some ⟨g4, 0, none⟩) g4 0 n f4
  x1 : BOwn W (some ⟨d4, 0, none⟩) d4 0 m fx
  z6 : BOwn W a6 g6 0 N F6

theorem FAt.up {w W W' : World} {h0 h1 h2 h3 h4 h5 h6 h7 many : Int} {r : Option Addr} {n cap : Nat} {u0 u1 u2 u3 u4 u5 u6 u7 mn : Int} {N : Nat} {F : Nat → Int} {S6 S8 S10 : Nat} {a3 : Option Addr} {g3 c3 g4 : Nat} {f4 : Nat → Int} {d4 m : Nat} {fx : Nat → Int} {a6 : Option Addr} {g6 c6 : Nat} {F6 : Nat → Int} (h : FAt w W h0 h1 h2 h3 h4 h5 h6 h7 many r n cap u0 u1 u2 u3 u4 u5 u6 u7 mn N F S6 S8 S10 a3 g3 c3 g4 f4 d4 m fx a6 g6 c6 F6) (x : Ext W W') : FAt w W' h0 h1 h2 h3 h4 h5 h6 h7 many r n cap u0 u1 u2 u3 u4 u5 u6 u7 mn N F S6 S8 S10 a3 g3 c3 g4 f4 d4 m fx a6 g6 c6 F6 :=
  ⟨h.e.trans x, h.b0.ext x (World.block_lt_of_cell? _ _ (h.b0 0 _ rfl).1), h.t6.ext x (World.block_lt_of_cell? _ _ (h.t6 0 _ rfl).1), h.t8.ext x (World.block_lt_of_cell? _ _ (h.t8 0 _ rfl).1), h.t10.ext x (World.block_lt_of_cell? _ _ (h.t10 0 _ rfl).1), h.s3.of_all x, h.r4.of_all x, h.x1.of_all x, h.z6.of_all x⟩

theorem FAt.m4 {w W W' : World} {h0 h1 h2 h3 h4 h5 h6 h7 many : Int} {r : Option Addr} {n cap : Nat} {u0 u1 u2 u3 u4 u5 u6 u7 mn : Int} {N : Nat} {F : Nat → Int} {S6 S8 S10 : Nat} {a3 : Option Addr} {g3 c3 g4 : Nat} {f4 : Nat → Int} {d4 m : Nat} {fx : Nat → Int} {a6 : Option Addr} {g6 c6 : Nat} {F6 : Nat → Int} (h : FAt w W h0 h1 h2 h3 h4 h5 h6 h7 many r n cap u0 u1 u2 u3 u4 u5 u6 u7 mn N F S6 S8 S10 a3 g3 c3 g4 f4 d4 m fx a6 g6 c6 F6) (q : w.heap.size < S6 ∧ (0 < N → g3 < S6) ∧ w.heap.size < g3 ∧ S6 < g4 ∧ g4 < S8 ∧ d4 = S8 + 1 ∧ d4 < g6 ∧ g6 ≠ S10 ∧ d4 < S10) {f' : Nat → Int} (hG : Grw (fun k => k = g4) W W') (hB : BOwn W' (some ⟨g4, 0, none⟩) g4 0 n f') : FAt w W' h0 h1 h2 h3 h4 h5 h6 h7 many r n cap u0 u1 u2 u3 u4 u5 u6 u7 mn N F S6 S8 S10 a3 g3 c3 g4 f' d4 m fx a6 g6 c6 F6 := by
  have hl : w.heap.size < W.heap.size := World.block_lt_of_cell? _ _ (h.b0 0 _ rfl).1
  refine ⟨Below.trans h.e ⟨hG.os, hG.tape, hG.output, hG.size, fun k hk => hG.block k (by omega) (by intro e; subst e; omega)⟩, h.b0.grw hG hl (by show ¬ _ = _; omega), h.t6.grw hG (World.block_lt_of_cell? _ _ (h.t6 0 _ rfl).1) (by show ¬ _ = _; omega), h.t8.grw hG (World.block_lt_of_cell? _ _ (h.t8 0 _ rfl).1) (by show ¬ _ = _; omega), h.t10.grw hG (World.block_lt_of_cell? _ _ (h.t10 0 _ rfl).1) (by show ¬ _ = _; omega), h.s3.grw hG (fun hp => by show ¬ _ = _; omega), hB, h.x1.grw hG (fun _ => by show ¬ _ = _; omega), h.z6.grw hG (fun _ => by show ¬ _ = _; omega)⟩

theorem FAt.mx {w W W' : World} {h0 h1 h2 h3 h4 h5 h6 h7 many : Int} {r : Option Addr} {n cap : Nat} {u0 u1 u2 u3 u4 u5 u6 u7 mn : Int} {N : Nat} {F : Nat → Int} {S6 S8 S10 : Nat} {a3 : Option Addr} {g3 c3 g4 : Nat} {f4 : Nat → Int} {d4 m : Nat} {fx : Nat → Int} {a6 : Option Addr} {g6 c6 : Nat} {F6 : Nat → Int} (h : FAt w W h0 h1 h2 h3 h4 h5 h6 h7 many r n cap u0 u1 u2 u3 u4 u5 u6 u7 mn N F S6 S8 S10 a3 g3 c3 g4 f4 d4 m fx a6 g6 c6 F6) (q : w.heap.size < S6 ∧ (0 < N → g3 < S6) ∧ w.heap.size < g3 ∧ S6 < g4 ∧ g4 < S8 ∧ d4 = S8 + 1 ∧ d4 < g6 ∧ g6 ≠ S10 ∧ d4 < S10) {f' : Nat → Int} (hG : Grw (fun k => k = d4) W W') (hB : BOwn W' (some ⟨d4, 0, none⟩) d4 0 m f') : FAt w W' h0 h1 h2 h3 h4 h5 h6 h7 many r n cap u0 u1 u2 u3 u4 u5 u6 u7 mn N F S6 S8 S10 a3 g3 c3 g4 f4 d4 m f' a6 g6 c6 F6 := by
  have hl : w.heap.size < W.heap.size := World.block_lt_of_cell? _ _ (h.b0 0 _ rfl).1
  refine ⟨Below.trans h.e ⟨hG.os, hG.tape, hG.output, hG.size, fun k hk => hG.block k (by omega) (by intro e; subst e; omega)⟩, h.b0.grw hG hl (by show ¬ _ = _; omega), h.t6.grw hG (World.block_lt_of_cell? _ _ (h.t6 0 _ rfl).1) (by show ¬ _ = _; omega), h.t8.grw hG (World.block_lt_of_cell? _ _ (h.t8 0 _ rfl).1) (by show ¬ _ = _; omega), h.t10.grw hG (World.block_lt_of_cell? _ _ (h.t10 0 _ rfl).1) (by show ¬ _ = _; omega), h.s3.grw hG (fun hp => by show ¬ _ = _; omega), h.r4.grw hG (fun _ => by show ¬ _ = _; omega), hB, h.z6.grw hG (fun _ => by show ¬ _ = _; omega)⟩

theorem FAt.m6 {w W W' : World} {h0 h1 h2 h3 h4 h5 h6 h7 many : Int} {r : Option Addr} {n cap : Nat} {u0 u1 u2 u3 u4 u5 u6 u7 mn : Int} {N : Nat} {F : Nat → Int} {S6 S8 S10 : Nat} {a3 : Option Addr} {g3 c3 g4 : Nat} {f4 : Nat → Int} {d4 m : Nat} {fx : Nat → Int} {a6 : Option Addr} {g6 c6 : Nat} {F6 : Nat → Int} (h : FAt w W h0 h1 h2 h3 h4 h5 h6 h7 many r n cap u0 u1 u2 u3 u4 u5 u6 u7 mn N F S6 S8 S10 a3 g3 c3 g4 f4 d4 m fx a6 g6 c6 F6) (q : w.heap.size < S6 ∧ (0 < N → g3 < S6) ∧ w.heap.size < g3 ∧ S6 < g4 ∧ g4 < S8 ∧ d4 = S8 + 1 ∧ d4 < g6 ∧ g6 ≠ S10 ∧ d4 < S10) {f' : Nat → Int} (hG : Grw (fun k => k = g6) W W') (hB : BOwn W' a6 g6 0 N f') : FAt w W' h0 h1 h2 h3 h4 h5 h6 h7 many r n cap u0 u1 u2 u3 u4 u5 u6 u7 mn N F S6 S8 S10 a3 g3 c3 g4 f4 d4 m fx a6 g6 c6 f' := by
  have hl : w.heap.size < W.heap.size := World.block_lt_of_cell? _ _ (h.b0 0 _ rfl).1
  refine ⟨Below.trans h.e ⟨hG.os, hG.tape, hG.output, hG.size, fun k hk => hG.block k (by omega) (by intro e; subst e; omega)⟩, h.b0.grw hG hl (by show ¬ _ = _; omega), h.t6.grw hG (World.block_lt_of_cell? _ _ (h.t6 0 _ rfl).1) (by show ¬ _ = _; omega), h.t8.grw hG (World.block_lt_of_cell? _ _ (h.t8 0 _ rfl).1) (by show ¬ _ = _; omega), h.t10.grw hG (World.block_lt_of_cell? _ _ (h.t10 0 _ rfl).1) (by show ¬ _ = _; omega), h.s3.grw hG (fun hp => by show ¬ _ = _; omega), h.r4.grw hG (fun _ => by show ¬ _ = _; omega), h.x1.grw hG (fun _ => by show ¬ _ = _; omega), hB⟩

set_option maxHeartbeats 12800000 in
set_option maxRecDepth 100000 in
theorem law (h0 h1 h2 h3 h4 h5 h6 h7 : Int) (r : Option Addr) (b off n cap : Nat) (f : Nat → Int) (many : Int) (da : Option Addr) (db doff m dcap : Nat) (fd : Nat → Int) (w : World) (hs : BSeg w r b off n f) (hn : n ≤ 1048576) (hby : ∀ i, i < n → 0 ≤ f i ∧ f i < 256) (hd : BSeg w da db doff m fd) (hm : m ≤ 1048576) (hdy : ∀ i, i < m → 0 ≤ fd i ∧ fd i < 256) :
    Calls Try.prog 6 #[.agg #[.int .i64 h0, .int .i64 h1, .int .i64 h2, .int .i64 h3, .int .i64 h4, .int .i64 h5, .int .i64 h6, .int .i64 h7, .slice r n cap, .int .i64 many], .slice da m dcap] w fun e w' => e = .returned (.bool true) ∧ Below w.heap.size w w' := by
  obtain ⟨u, N, F, mn, ok, hN, HI0, HS0⟩ := feed_at (fun i => if i = 0 then h0 else if i = 1 then h1 else if i = 2 then h2 else if i = 3 then h3 else if i = 4 then h4 else if i = 5 then h5 else if i = 6 then h6 else h7) n f many m fd hn hm hby hdy
  obtain ⟨u0, u1, u2, u3, u4, u5, u6, u7, hu⟩ : ∃ u0 u1 u2 u3 u4 u5 u6 u7 : Int, u 0 = u0 ∧ u 1 = u1 ∧ u 2 = u2 ∧ u 3 = u3 ∧ u 4 = u4 ∧ u 5 = u5 ∧ u 6 = u6 ∧ u 7 = u7 := ⟨_, _, _, _, _, _, _, _, rfl, rfl, rfl, rfl, rfl, rfl, rfl, rfl⟩
  have HSp : Hid (∀ (g gd : Nat) (W : World), BSeg W (some ⟨g, 0, none⟩) g 0 n f → BSeg W (some ⟨gd, 0, none⟩) gd 0 m fd → Calls Try.prog 27 #[.agg #[.int .i64 h0, .int .i64 h1, .int .i64 h2, .int .i64 h3, .int .i64 h4, .int .i64 h5, .int .i64 h6, .int .i64 h7, .slice (some ⟨g, 0, none⟩) n n, .int .i64 many], .slice (some ⟨gd, 0, none⟩) m m] W fun e w' => ∃ a g cap, e = .returned (.tuple #[.agg #[.int .i64 u0, .int .i64 u1, .int .i64 u2, .int .i64 u3, .int .i64 u4, .int .i64 u5, .int .i64 u6, .int .i64 u7, .slice a N cap, .int .i64 mn], .bool ok]) ∧ W.heap.size ≤ g ∧ BOwn w' a g 0 N F ∧ Ext W w') := hide (fun g gd W h1 h2 => by
    have := HS0 (some ⟨g, 0, none⟩) g 0 n (some ⟨gd, 0, none⟩) gd 0 m W h1 h2
    unfold GivesSt at this
    rw [hu.1, hu.2.1, hu.2.2.1, hu.2.2.2.1, hu.2.2.2.2.1, hu.2.2.2.2.2.1, hu.2.2.2.2.2.2.1, hu.2.2.2.2.2.2.2] at this
    exact this)
  have HIm : Hid (∀ (g gd : Nat) (W : World), BSeg W (some ⟨g, 0, none⟩) g 0 n f → BSeg W (some ⟨gd, 0, none⟩) gd 0 m fd → Calls Try.prog 29 #[.agg #[.int .i64 h0, .int .i64 h1, .int .i64 h2, .int .i64 h3, .int .i64 h4, .int .i64 h5, .int .i64 h6, .int .i64 h7, .slice (some ⟨g, 0, none⟩) n n, .int .i64 many], .slice (some ⟨gd, 0, none⟩) m m] W fun e w' => ∃ a g cap, e = .returned (.tuple #[.agg #[.int .i64 u0, .int .i64 u1, .int .i64 u2, .int .i64 u3, .int .i64 u4, .int .i64 u5, .int .i64 u6, .int .i64 u7, .slice a N cap, .int .i64 mn], .bool ok]) ∧ W.heap.size ≤ g ∧ BOwn w' a g 0 N F ∧ Ext W w') := hide (fun g gd W h1 h2 => by
    have := HI0 (some ⟨g, 0, none⟩) g 0 n (some ⟨gd, 0, none⟩) gd 0 m W h1 h2
    unfold GivesSt at this
    rw [hu.1, hu.2.1, hu.2.2.1, hu.2.2.2.1, hu.2.2.2.2.1, hu.2.2.2.2.2.1, hu.2.2.2.2.2.2.1, hu.2.2.2.2.2.2.2] at this
    exact this)
  have HSz := hide (fun w => szStream_at h0 h1 h2 h3 h4 h5 h6 h7 r n cap many w hn)
  have HTo : Hid (∀ W : World, Ext w W → Calls Try.prog 28 #[.agg #[.int .i64 h0, .int .i64 h1, .int .i64 h2, .int .i64 h3, .int .i64 h4, .int .i64 h5, .int .i64 h6, .int .i64 h7, .slice r n cap, .int .i64 many]] W fun e w' => GivesStr h0 h1 h2 h3 h4 h5 h6 h7 n f many W e w') := fun W e => toStream_any h0 h1 h2 h3 h4 h5 h6 h7 r b off n cap f many W (hs.of_all e) hn
  have HTb : Hid (∀ W : World, Ext w W → Calls Try.prog 22 #[.slice da m dcap] W fun e w' => e = .returned (.slice (some ⟨W.heap.size, 0, none⟩) m m) ∧ w'.heap.size = W.heap.size + 1 ∧ BOwn w' (some ⟨W.heap.size, 0, none⟩) W.heap.size 0 m fd ∧ Ext W w') := hide (fun W e => (toByteS_any da db doff m dcap fd W (hd.of_all e) hm).mono (fun _ _ k => ⟨k.1, k.2.1, BOwn.of_row k.2.2.1 (Nat.le_refl _), k.2.2.2⟩))
  have Hn := hide hn
  clear hs hby hd hdy hu HI0 HS0
  have hnn : ¬ (1048576 - (n : Int) < 0) := by omega
  have hmm : ¬ ((1048576 : Int) < (m : Int)) := by omega
  go_enter Try.func6, Try.ntmps6
  go_wp2_with fail
  refine (HSz.out _).mono ?_
  rintro e w1 ⟨rfl, hw1⟩
  obtain ⟨B0, hE, hz⟩ := box1 w [.int .i64 h0, .int .i64 h1, .int .i64 h2, .int .i64 h3, .int .i64 h4, .int .i64 h5, .int .i64 h6, .int .i64 h7, .slice r n cap, .int .i64 many] 37 hw1
  clear hw1 HSz
  have k0 := (B0 0 _ rfl).1
  have k1 := (B0 1 _ rfl).1
  have k2 := (B0 2 _ rfl).1
  have k3 := (B0 3 _ rfl).1
  have k4 := (B0 4 _ rfl).1
  have k5 := (B0 5 _ rfl).1
  have k6 := (B0 6 _ rfl).1
  have k7 := (B0 7 _ rfl).1
  have k8 := (B0 8 _ rfl).1
  have k9 := (B0 9 _ rfl).1
  go_wp2_with fail
  clear k0 k1 k2 k3 k4 k5 k6 k7 k8 k9
  refine (HTo.out _ hE).mono ?_
  rintro e w2 ⟨g, rfl, R2, hg, hg2, hw2⟩
  replace B0 := B0.ext hw2 (by omega)
  replace hE := hE.trans hw2
  have hz2 : w.heap.size + 1 ≤ w2.heap.size := Nat.le_trans hz (Below.size hw2)
  clear hw2 hz hg hg2
  go_wp2_with fail
  refine (HTb.out _ hE).mono ?_
  rintro e w3 ⟨rfl, hz3, D3, hw3⟩
  replace B0 := B0.ext hw3 (by omega)
  replace hE := hE.trans hw3
  have R3 := R2.of_all hw3
  clear R2
  go_wp2_with fail
  refine (HSp.out g w2.heap.size _ R3.toBSeg D3.toBSeg).mono ?_
  rintro e w4 ⟨a3, g3, c3, rfl, hg3, hO3, hw4⟩
  replace B0 := B0.ext hw4 (by omega)
  replace hE := hE.trans hw4
  have X4 := Ext.alloc w4 (.cells #[.int .i64 u0, .int .i64 u1, .int .i64 u2, .int .i64 u3, .int .i64 u4, .int .i64 u5, .int .i64 u6, .int .i64 u7, .slice a3 N c3, .int .i64 mn] 39)
  have T6 : Blk (w4.alloc (.cells #[.int .i64 u0, .int .i64 u1, .int .i64 u2, .int .i64 u3, .int .i64 u4, .int .i64 u5, .int .i64 u6, .int .i64 u7, .slice a3 N c3, .int .i64 mn] 39)) w4.heap.size [.int .i64 u0, .int .i64 u1, .int .i64 u2, .int .i64 u3, .int .i64 u4, .int .i64 u5, .int .i64 u6, .int .i64 u7, .slice a3 N c3, .int .i64 mn] := Blk.alloc w4 [.int .i64 u0, .int .i64 u1, .int .i64 u2, .int .i64 u3, .int .i64 u4, .int .i64 u5, .int .i64 u6, .int .i64 u7, .slice a3 N c3, .int .i64 mn] 39
  have hz4 : w.heap.size + 1 ≤ w4.heap.size := by have := Below.size hw4; omega
  have q3 : Hid (w.heap.size < w4.heap.size ∧ (0 < N → g3 < w4.heap.size) ∧ w.heap.size < g3) := hide ⟨by omega, fun h => hO3.toBSeg.lt h, by omega⟩
  have s3 := hO3.toBSeg.of_all X4
  have B0' := B0.ext X4 (by omega)
  have hE' := hE.trans X4
  have hS6 : (w4.alloc (.cells #[.int .i64 u0, .int .i64 u1, .int .i64 u2, .int .i64 u3, .int .i64 u4, .int .i64 u5, .int .i64 u6, .int .i64 u7, .slice a3 N c3, .int .i64 mn] 39)).heap.size = w4.heap.size + 1 := World.size_alloc _ _
  clear hw4 hO3 R3 D3 hw3 hz3 hz2 HSp B0 hE X4 hg3
  have k0 := (B0' 0 _ rfl).1
  have k1 := (B0' 1 _ rfl).1
  have k2 := (B0' 2 _ rfl).1
  have k3 := (B0' 3 _ rfl).1
  have k4 := (B0' 4 _ rfl).1
  have k5 := (B0' 5 _ rfl).1
  have k6 := (B0' 6 _ rfl).1
  have k7 := (B0' 7 _ rfl).1
  have k8 := (B0' 8 _ rfl).1
  have k9 := (B0' 9 _ rfl).1
  go_wp2_with fail
  clear k0 k1 k2 k3 k4 k5 k6 k7 k8 k9
  refine (HTo.out _ hE').mono ?_
  rintro e w5 ⟨g4, rfl, R4, hg4, hg4', hw5⟩
  have q4 : Hid (w4.heap.size < g4 ∧ g4 < w5.heap.size) := hide ⟨by omega, hg4'⟩
  have X5 := Ext.alloc w5 (.cells #[.int .i64 h0, .int .i64 h1, .int .i64 h2, .int .i64 h3, .int .i64 h4, .int .i64 h5, .int .i64 h6, .int .i64 h7, .slice (some ⟨g4, 0, none⟩) n n, .int .i64 many] 39)
  have T8 : Blk (w5.alloc (.cells #[.int .i64 h0, .int .i64 h1, .int .i64 h2, .int .i64 h3, .int .i64 h4, .int .i64 h5, .int .i64 h6, .int .i64 h7, .slice (some ⟨g4, 0, none⟩) n n, .int .i64 many] 39)) w5.heap.size [.int .i64 h0, .int .i64 h1, .int .i64 h2, .int .i64 h3, .int .i64 h4, .int .i64 h5, .int .i64 h6, .int .i64 h7, .slice (some ⟨g4, 0, none⟩) n n, .int .i64 many] := Blk.alloc w5 [.int .i64 h0, .int .i64 h1, .int .i64 h2, .int .i64 h3, .int .i64 h4, .int .i64 h5, .int .i64 h6, .int .i64 h7, .slice (some ⟨g4, 0, none⟩) n n, .int .i64 many] 39
  have h55 := hw5.trans X5
  have B0 := B0'.ext h55 (by omega)
  have hE := hE'.trans h55
  replace T6 := T6.ext h55 (by omega)
  replace s3 := s3.of_all h55
  replace R4 := R4.of_all X5
  have hS8 : (w5.alloc (.cells #[.int .i64 h0, .int .i64 h1, .int .i64 h2, .int .i64 h3, .int .i64 h4, .int .i64 h5, .int .i64 h6, .int .i64 h7, .slice (some ⟨g4, 0, none⟩) n n, .int .i64 many] 39)).heap.size = w5.heap.size + 1 := World.size_alloc _ _
  have hz5 : w.heap.size + 1 ≤ w5.heap.size ∧ w4.heap.size + 1 ≤ w5.heap.size := by have := Below.size hw5; omega
  clear hw5 X5 h55 B0' hE' hg4 hg4' hS6
  go_wp2_with fail
  refine (HTb.out _ hE).mono ?_
  rintro e w6 ⟨rfl, hz6, D6, hw6⟩
  replace B0 := B0.ext hw6 (by omega)
  replace T6 := T6.ext hw6 (by omega)
  replace T8 := T8.ext hw6 (by omega)
  replace hE := hE.trans hw6
  replace s3 := s3.of_all hw6
  replace R4 := R4.of_all hw6
  obtain ⟨d4, hd4⟩ : ∃ d4, (w5.alloc (.cells #[.int .i64 h0, .int .i64 h1, .int .i64 h2, .int .i64 h3, .int .i64 h4, .int .i64 h5, .int .i64 h6, .int .i64 h7, .slice (some ⟨g4, 0, none⟩) n n, .int .i64 many] 39)).heap.size = d4 := ⟨_, rfl⟩
  rw [hd4] at D6 hz6 hS8 ⊢
  have hd4' : Hid (d4 = w5.heap.size + 1) := hide hS8
  have Hz6 := hide hz6
  clear hS8 hd4 hw6 hz6
  have t0 := (T8 0 _ rfl).1
  have t1 := (T8 1 _ rfl).1
  have t2 := (T8 2 _ rfl).1
  have t3 := (T8 3 _ rfl).1
  have t4 := (T8 4 _ rfl).1
  have t5 := (T8 5 _ rfl).1
  have t6 := (T8 6 _ rfl).1
  have t7 := (T8 7 _ rfl).1
  have t8 := (T8 8 _ rfl).1
  have t9 := (T8 9 _ rfl).1
  go_wp2_with fail
  clear t0 t1 t2 t3 t4 t5 t6 t7 t8 t9
  refine (HIm.out g4 d4 _ R4.toBSeg D6.toBSeg).mono ?_
  rintro e w7 ⟨a6, g6, c6, rfl, hg6, hO6, hw7⟩
  have hlt6 : d4 < g6 := by have := Hz6.out; omega
  obtain ⟨g6, hg6d, hg6n, hO6⟩ : ∃ g6, d4 < g6 ∧ g6 ≠ w7.heap.size ∧ BOwn w7 a6 g6 0 N F := by
    by_cases hN0 : N = 0
    · subst hN0
      exact ⟨w7.heap.size + 1 + d4, by omega, by omega, BOwn.nil _ _ _ _ _⟩
    · exact ⟨g6, hlt6, by have := hO6.toBSeg.lt (by omega); omega, hO6⟩
  have X7 := Ext.alloc w7 (.cells #[.int .i64 u0, .int .i64 u1, .int .i64 u2, .int .i64 u3, .int .i64 u4, .int .i64 u5, .int .i64 u6, .int .i64 u7, .slice a6 N c6, .int .i64 mn] 39)
  have T10 : Blk (w7.alloc (.cells #[.int .i64 u0, .int .i64 u1, .int .i64 u2, .int .i64 u3, .int .i64 u4, .int .i64 u5, .int .i64 u6, .int .i64 u7, .slice a6 N c6, .int .i64 mn] 39)) w7.heap.size [.int .i64 u0, .int .i64 u1, .int .i64 u2, .int .i64 u3, .int .i64 u4, .int .i64 u5, .int .i64 u6, .int .i64 u7, .slice a6 N c6, .int .i64 mn] := Blk.alloc w7 [.int .i64 u0, .int .i64 u1, .int .i64 u2, .int .i64 u3, .int .i64 u4, .int .i64 u5, .int .i64 u6, .int .i64 u7, .slice a6 N c6, .int .i64 mn] 39
  have h77 := hw7.trans X7
  have hz6 := Hz6.out
  have hd4'' := hd4'.out
  have hlt7 : d4 + 1 ≤ w7.heap.size := by have := Below.size hw7; omega
  have HQ : Hid (w.heap.size < w4.heap.size ∧ (0 < N → g3 < w4.heap.size) ∧ w.heap.size < g3 ∧ w4.heap.size < g4 ∧ g4 < w5.heap.size ∧ d4 = w5.heap.size + 1 ∧ d4 < g6 ∧ g6 ≠ w7.heap.size ∧ d4 < w7.heap.size) := hide ⟨q3.out.1, q3.out.2.1, q3.out.2.2, q4.out.1, q4.out.2, hd4'', hg6d, hg6n, by omega⟩
  have HFt : Hid (FAt w (w7.alloc (.cells #[.int .i64 u0, .int .i64 u1, .int .i64 u2, .int .i64 u3, .int .i64 u4, .int .i64 u5, .int .i64 u6, .int .i64 u7, .slice a6 N c6, .int .i64 mn] 39)) h0 h1 h2 h3 h4 h5 h6 h7 many r n cap u0 u1 u2 u3 u4 u5 u6 u7 mn N F w4.heap.size w5.heap.size w7.heap.size a3 g3 c3 g4 f d4 m fd a6 g6 c6 F) := hide ⟨hE.trans h77, B0.ext h77 (by omega), T6.ext h77 (by omega), T8.ext h77 (by omega), T10, s3.of_all h77, R4.of_all h77, D6.of_all h77, hO6.of_all X7⟩
  clear B0 T6 T8 T10 hE s3 R4 D6 hO6 h77 X7 hw7 hlt7 hlt6 hg6d hg6n hg6 hz6 Hz6 hd4' hd4'' q3 q4 hz4 hz5
  have hoo : (ok != ok) = false := by simp
  have t0 := (HFt.out.t10 0 _ rfl).1
  have t1 := (HFt.out.t10 1 _ rfl).1
  have t2 := (HFt.out.t10 2 _ rfl).1
  have t3 := (HFt.out.t10 3 _ rfl).1
  have t4 := (HFt.out.t10 4 _ rfl).1
  have t5 := (HFt.out.t10 5 _ rfl).1
  have t6 := (HFt.out.t10 6 _ rfl).1
  have t7 := (HFt.out.t10 7 _ rfl).1
  have t8 := (HFt.out.t10 8 _ rfl).1
  have t9 := (HFt.out.t10 9 _ rfl).1
  have k0 := (HFt.out.t6 0 _ rfl).1
  have k1 := (HFt.out.t6 1 _ rfl).1
  have k2 := (HFt.out.t6 2 _ rfl).1
  have k3 := (HFt.out.t6 3 _ rfl).1
  have k4 := (HFt.out.t6 4 _ rfl).1
  have k5 := (HFt.out.t6 5 _ rfl).1
  have k6 := (HFt.out.t6 6 _ rfl).1
  have k7 := (HFt.out.t6 7 _ rfl).1
  have k8 := (HFt.out.t6 8 _ rfl).1
  have k9 := (HFt.out.t6 9 _ rfl).1
  go_wp2_with fail
  clear t0 t1 t2 t3 t4 t5 t6 t7 t8 t9 k0 k1 k2 k3 k4 k5 k6 k7 k8 k9
  generalize w7.alloc (.cells #[.int .i64 u0, .int .i64 u1, .int .i64 u2, .int .i64 u3, .int .i64 u4, .int .i64 u5, .int .i64 u6, .int .i64 u7, .slice a6 N c6, .int .i64 mn] 39) = W7 at *
  generalize w4.heap.size = S6 at *
  generalize w5.heap.size = S8 at *
  generalize w7.heap.size = S10 at *
  refine (eqStream_any u0 u1 u2 u3 u4 u5 u6 u7 a6 a3 c6 c3 g6 g3 N F mn _ HFt.out.z6.toBSeg HFt.out.s3 hN).mono ?_
  rintro e w8 ⟨rfl, hw8⟩
  replace HFt := hide (HFt.out.up hw8)
  clear hw8
  go_wp2
  obtain ⟨X, hX⟩ : ∃ X : Nat → Prop, X = fun _ => False := ⟨_, rfl⟩
  have x0 : ∀ k, ¬ X k := fun k => by rw [hX]; exact fun e => e
  clear hX
  have k0 := cell_reC (HFt.out.b0 0 _ rfl).1 (x0 _)
  have k1 := cell_reC (HFt.out.b0 1 _ rfl).1 (x0 _)
  have k2 := cell_reC (HFt.out.b0 2 _ rfl).1 (x0 _)
  have k3 := cell_reC (HFt.out.b0 3 _ rfl).1 (x0 _)
  have k4 := cell_reC (HFt.out.b0 4 _ rfl).1 (x0 _)
  have k5 := cell_reC (HFt.out.b0 5 _ rfl).1 (x0 _)
  have k6 := cell_reC (HFt.out.b0 6 _ rfl).1 (x0 _)
  have k7 := cell_reC (HFt.out.b0 7 _ rfl).1 (x0 _)
  have k8 := cell_reC (HFt.out.b0 8 _ rfl).1 (x0 _)
  have k9 := cell_reC (HFt.out.b0 9 _ rfl).1 (x0 _)
  have t0 := cell_reC (HFt.out.t8 0 _ rfl).1 (x0 _)
  have t1 := cell_reC (HFt.out.t8 1 _ rfl).1 (x0 _)
  have t2 := cell_reC (HFt.out.t8 2 _ rfl).1 (x0 _)
  have t3 := cell_reC (HFt.out.t8 3 _ rfl).1 (x0 _)
  have t4 := cell_reC (HFt.out.t8 4 _ rfl).1 (x0 _)
  have t5 := cell_reC (HFt.out.t8 5 _ rfl).1 (x0 _)
  have t6 := cell_reC (HFt.out.t8 6 _ rfl).1 (x0 _)
  have t7 := cell_reC (HFt.out.t8 7 _ rfl).1 (x0 _)
  have t8 := cell_reC (HFt.out.t8 8 _ rfl).1 (x0 _)
  have t9 := cell_reC (HFt.out.t8 9 _ rfl).1 (x0 _)
  refine anyK_begin X 5 rfl (by kernel_rfl) ?_
  refine anyK_take 0 2 3 rfl (by decide) (by kernel_rfl) (fun _ _ d _ _ h => by cases d <;> exact h) ?_
  repeat (refine headC_step (fun K hK => ?_); go_simp; first | (refine hK _ ?_; clear hK K) | (apply Exists.intro; refine ⟨fun _ => ?_, hK _ ?_⟩; (fail); clear hK K))
  refine headC_nil ?_
  clear k0 k1 k2 k3 k4 k5 k6 k7 k8 k9 t0 t1 t2 t3 t4 t5 t6 t7 t8 t9
  refine anyK_one 2 (by kernel_rfl) ?_
  refine stepK_run rfl ?_
  intro wa ha K hK
  go_simp
  refine (HTo.out _ (HFt.out.e.trans ha)).mono ?_
  rintro e wb ⟨g2, rfl, R6, -, -, hb⟩
  have hx := ha.trans hb
  replace R6 := hide R6
  go_simp
  refine hK _ _ (.of_ext hx) ?_
  clear hK K ha hb
  refine anyK_one 3 (by kernel_rfl) ?_
  refine stepK_run rfl ?_
  intro wc hc K hK
  go_simp
  refine (eqStream_same h0 h1 h2 h3 h4 h5 h6 h7 g4 g2 n f many _ (HFt.out.r4.of_all (hx.trans hc)).toBSeg (R6.out.of_all hc).toBSeg Hn.out).mono ?_
  rintro e wd ⟨rfl, hd⟩
  have hx2 := hx.trans (hc.trans hd)
  go_simp
  refine hK _ _ (.of_ext hx2) ?_
  clear hK K hc hd hx R6
  refine anyK_take 4 1 0 rfl (by decide) (by kernel_rfl) (fun _ _ d _ _ h => by cases d <;> exact h) ?_
  repeat (refine headC_step (fun K hK => ?_); go_simp; first | (refine hK _ ?_; clear hK K) | (apply Exists.intro; refine ⟨fun _ => ?_, hK _ ?_⟩; (fail); clear hK K))
  refine headC_nil ?_
  refine anyK_done (by kernel_rfl) ?_ 0
  intro we he
  replace HFt := hide (HFt.out.up (hx2.trans he))
  clear he hx2 x0
  go_wp2_with fail
  refine (HTb.out _ HFt.out.e).mono ?_
  rintro e w9 ⟨rfl, hz9, D9, hw9⟩
  replace HFt := hide (HFt.out.up hw9)
  clear hz9 hw9
  go_wp2_with fail
  refine (eqByteS_any _ d4 0 m m fd _ we.heap.size 0 m m fd _ HFt.out.x1.toBSeg D9.toBSeg hm).mono ?_
  rintro e w10 ⟨rfl, q, rfl⟩
  rw [alike_refl]
  replace HFt := hide (HFt.out.up (show Ext w9 (w9.drewN q) from below_drewN (Below.refl _ _) q))
  clear D9
  generalize w9.drewN q = w10 at *
  have t0 := (HFt.out.t8 0 _ rfl).1
  have t1 := (HFt.out.t8 1 _ rfl).1
  have t2 := (HFt.out.t8 2 _ rfl).1
  have t3 := (HFt.out.t8 3 _ rfl).1
  have t4 := (HFt.out.t8 4 _ rfl).1
  have t5 := (HFt.out.t8 5 _ rfl).1
  have t6 := (HFt.out.t8 6 _ rfl).1
  have t7 := (HFt.out.t8 7 _ rfl).1
  have t8 := (HFt.out.t8 8 _ rfl).1
  have t9 := (HFt.out.t8 9 _ rfl).1
  go_wp2_with fail
  clear t0 t1 t2 t3 t4 t5 t6 t7 t8 t9
  refine (markStream_gen h0 h1 h2 h3 h4 h5 h6 h7 (some ⟨g4, 0, none⟩) g4 n n f many _ HFt.out.r4 Hn.out).mono ?_
  rintro e w11 ⟨rfl, hB, hG⟩
  replace HFt := hide (HFt.out.m4 HQ.out hG hB)
  clear hB hG
  go_wp2_with fail
  refine (markByteS_any _ d4 0 m m fd (1 + (n : Int)) _ HFt.out.x1 hm (by omega) (by have := Hn.out; omega)).mono ?_
  rintro e w12 ⟨rfl, hB, hT⟩
  replace HFt := hide (HFt.out.mx HQ.out (Grw.of_touch hT rfl) hB)
  clear hB hT
  have hk0 : ¬ (1 + (n : Int) + (m : Int) < 0) := by omega
  have t0 := (HFt.out.t10 0 _ rfl).1
  have t1 := (HFt.out.t10 1 _ rfl).1
  have t2 := (HFt.out.t10 2 _ rfl).1
  have t3 := (HFt.out.t10 3 _ rfl).1
  have t4 := (HFt.out.t10 4 _ rfl).1
  have t5 := (HFt.out.t10 5 _ rfl).1
  have t6 := (HFt.out.t10 6 _ rfl).1
  have t7 := (HFt.out.t10 7 _ rfl).1
  have t8 := (HFt.out.t10 8 _ rfl).1
  have t9 := (HFt.out.t10 9 _ rfl).1
  have k0 := (HFt.out.t6 0 _ rfl).1
  have k1 := (HFt.out.t6 1 _ rfl).1
  have k2 := (HFt.out.t6 2 _ rfl).1
  have k3 := (HFt.out.t6 3 _ rfl).1
  have k4 := (HFt.out.t6 4 _ rfl).1
  have k5 := (HFt.out.t6 5 _ rfl).1
  have k6 := (HFt.out.t6 6 _ rfl).1
  have k7 := (HFt.out.t6 7 _ rfl).1
  have k8 := (HFt.out.t6 8 _ rfl).1
  have k9 := (HFt.out.t6 9 _ rfl).1
  go_wp2_with fail
  clear t0 t1 t2 t3 t4 t5 t6 t7 t8 t9 k0 k1 k2 k3 k4 k5 k6 k7 k8 k9
  refine (eqStream_any u0 u1 u2 u3 u4 u5 u6 u7 a6 a3 c6 c3 g6 g3 N F mn _ HFt.out.z6.toBSeg HFt.out.s3 hN).mono ?_
  rintro e w13 ⟨rfl, hw⟩
  replace HFt := hide (HFt.out.up hw)
  clear hw
  have t0 := (HFt.out.t10 0 _ rfl).1
  have t1 := (HFt.out.t10 1 _ rfl).1
  have t2 := (HFt.out.t10 2 _ rfl).1
  have t3 := (HFt.out.t10 3 _ rfl).1
  have t4 := (HFt.out.t10 4 _ rfl).1
  have t5 := (HFt.out.t10 5 _ rfl).1
  have t6 := (HFt.out.t10 6 _ rfl).1
  have t7 := (HFt.out.t10 7 _ rfl).1
  have t8 := (HFt.out.t10 8 _ rfl).1
  have t9 := (HFt.out.t10 9 _ rfl).1
  go_wp2_with fail
  clear t0 t1 t2 t3 t4 t5 t6 t7 t8 t9
  refine (markStream_gen u0 u1 u2 u3 u4 u5 u6 u7 a6 g6 N c6 F mn _ HFt.out.z6 hN).mono ?_
  rintro e w14 ⟨rfl, hB, hG⟩
  replace HFt := hide (HFt.out.m6 HQ.out hG hB)
  clear hB hG
  have t0 := (HFt.out.t10 0 _ rfl).1
  have t1 := (HFt.out.t10 1 _ rfl).1
  have t2 := (HFt.out.t10 2 _ rfl).1
  have t3 := (HFt.out.t10 3 _ rfl).1
  have t4 := (HFt.out.t10 4 _ rfl).1
  have t5 := (HFt.out.t10 5 _ rfl).1
  have t6 := (HFt.out.t10 6 _ rfl).1
  have t7 := (HFt.out.t10 7 _ rfl).1
  have t8 := (HFt.out.t10 8 _ rfl).1
  have t9 := (HFt.out.t10 9 _ rfl).1
  go_wp2_with fail
  clear t0 t1 t2 t3 t4 t5 t6 t7 t8 t9
  refine (heldStream_gen u0 u1 u2 u3 u4 u5 u6 u7 a6 g6 N c6 mn _ HFt.out.z6.toBSeg hN).mono ?_
  rintro e w15 ⟨rfl, hw⟩
  replace HFt := hide (HFt.out.up hw)
  clear hw
  have hp : ¬ (1 + (N : Int) < 0) := by omega
  have hpp : ((1 + (N : Int)) != (1 + (N : Int))) = false := by simp
  have k0 := (HFt.out.b0 0 _ rfl).1
  have k1 := (HFt.out.b0 1 _ rfl).1
  have k2 := (HFt.out.b0 2 _ rfl).1
  have k3 := (HFt.out.b0 3 _ rfl).1
  have k4 := (HFt.out.b0 4 _ rfl).1
  have k5 := (HFt.out.b0 5 _ rfl).1
  have k6 := (HFt.out.b0 6 _ rfl).1
  have k7 := (HFt.out.b0 7 _ rfl).1
  have k8 := (HFt.out.b0 8 _ rfl).1
  have k9 := (HFt.out.b0 9 _ rfl).1
  go_wp2_with fail
  clear k0 k1 k2 k3 k4 k5 k6 k7 k8 k9
  refine (HTo.out _ HFt.out.e).mono ?_
  rintro e w16 ⟨g16, rfl, R16, -, -, hw⟩
  replace HFt := hide (HFt.out.up hw)
  clear hw
  go_wp2_with fail
  refine (HTb.out _ HFt.out.e).mono ?_
  rintro e w17 ⟨rfl, hz17, D17, hw⟩
  replace HFt := hide (HFt.out.up hw)
  replace R16 := R16.of_all hw
  clear hw hz17
  go_wp2_with fail
  refine (HIm.out g16 w16.heap.size _ R16.toBSeg D17.toBSeg).mono ?_
  rintro e w18 ⟨a19, g19, c19, rfl, -, hO19, hw⟩
  replace HFt := hide (HFt.out.up hw)
  clear hw R16 D17
  have X18 := Ext.alloc w18 (.cells #[.int .i64 u0, .int .i64 u1, .int .i64 u2, .int .i64 u3, .int .i64 u4, .int .i64 u5, .int .i64 u6, .int .i64 u7, .slice a19 N c19, .int .i64 mn] 39)
  have T15 : Blk (w18.alloc (.cells #[.int .i64 u0, .int .i64 u1, .int .i64 u2, .int .i64 u3, .int .i64 u4, .int .i64 u5, .int .i64 u6, .int .i64 u7, .slice a19 N c19, .int .i64 mn] 39)) w18.heap.size [.int .i64 u0, .int .i64 u1, .int .i64 u2, .int .i64 u3, .int .i64 u4, .int .i64 u5, .int .i64 u6, .int .i64 u7, .slice a19 N c19, .int .i64 mn] := Blk.alloc w18 [.int .i64 u0, .int .i64 u1, .int .i64 u2, .int .i64 u3, .int .i64 u4, .int .i64 u5, .int .i64 u6, .int .i64 u7, .slice a19 N c19, .int .i64 mn] 39
  have HFu := hide (HFt.out.up X18)
  have HO19 := hide (hO19.toBSeg.of_all X18)
  have t0 := (T15 0 _ rfl).1
  have t1 := (T15 1 _ rfl).1
  have t2 := (T15 2 _ rfl).1
  have t3 := (T15 3 _ rfl).1
  have t4 := (T15 4 _ rfl).1
  have t5 := (T15 5 _ rfl).1
  have t6 := (T15 6 _ rfl).1
  have t7 := (T15 7 _ rfl).1
  have t8 := (T15 8 _ rfl).1
  have t9 := (T15 9 _ rfl).1
  have k0 := (HFu.out.t6 0 _ rfl).1
  have k1 := (HFu.out.t6 1 _ rfl).1
  have k2 := (HFu.out.t6 2 _ rfl).1
  have k3 := (HFu.out.t6 3 _ rfl).1
  have k4 := (HFu.out.t6 4 _ rfl).1
  have k5 := (HFu.out.t6 5 _ rfl).1
  have k6 := (HFu.out.t6 6 _ rfl).1
  have k7 := (HFu.out.t6 7 _ rfl).1
  have k8 := (HFu.out.t6 8 _ rfl).1
  have k9 := (HFu.out.t6 9 _ rfl).1
  clear T15 X18 hO19 HFt
  go_wp2_with fail
  clear t0 t1 t2 t3 t4 t5 t6 t7 t8 t9 k0 k1 k2 k3 k4 k5 k6 k7 k8 k9
  refine (eqStream_any u0 u1 u2 u3 u4 u5 u6 u7 a19 a3 c19 c3 g19 g3 N F mn _ HO19.out HFu.out.s3 hN).mono ?_
  rintro e w20 ⟨rfl, hw⟩
  replace HFu := hide (HFu.out.up hw)
  clear hw HO19
  have t0 := (HFu.out.t10 0 _ rfl).1
  have t1 := (HFu.out.t10 1 _ rfl).1
  have t2 := (HFu.out.t10 2 _ rfl).1
  have t3 := (HFu.out.t10 3 _ rfl).1
  have t4 := (HFu.out.t10 4 _ rfl).1
  have t5 := (HFu.out.t10 5 _ rfl).1
  have t6 := (HFu.out.t10 6 _ rfl).1
  have t7 := (HFu.out.t10 7 _ rfl).1
  have t8 := (HFu.out.t10 8 _ rfl).1
  have t9 := (HFu.out.t10 9 _ rfl).1
  go_wp2_with fail
  clear t0 t1 t2 t3 t4 t5 t6 t7 t8 t9
  refine (heldStream_gen u0 u1 u2 u3 u4 u5 u6 u7 a6 g6 N c6 mn _ HFu.out.z6.toBSeg hN).mono ?_
  rintro e w21 ⟨rfl, hw⟩
  replace HFu := hide (HFu.out.up hw)
  clear hw
  go_wp2
  go_ret
  exact ⟨rfl, HFu.out.e⟩

set_option maxRecDepth 100000 in
theorem law_long1 (h0 h1 h2 h3 h4 h5 h6 h7 : Int) (r : Option Addr) (n cap : Nat) (many : Int) (da : Option Addr) (m dcap : Nat) (w : World) (hm : ¬ m ≤ 1048576) :
    Calls Try.prog 6 #[.agg #[.int .i64 h0, .int .i64 h1, .int .i64 h2, .int .i64 h3, .int .i64 h4, .int .i64 h5, .int .i64 h6, .int .i64 h7, .slice r n cap, .int .i64 many], .slice da m dcap] w fun e w' => e = .returned (.bool true) ∧ Below w.heap.size w w' := by
  have hz : (1048576 : Int) < (m : Int) := by omega
  go_enter Try.func6, Try.ntmps6
  go_wp2
  go_ret
  exact ⟨rfl, Ext.alloc _ _⟩

set_option maxRecDepth 100000 in
theorem law_long2 (h0 h1 h2 h3 h4 h5 h6 h7 : Int) (r : Option Addr) (n cap : Nat) (many : Int) (da : Option Addr) (m dcap : Nat) (w : World) (hm : m ≤ 1048576) (hn : ¬ n ≤ 1048576) (hb : n ≤ 9223372036854775807) :
    Calls Try.prog 6 #[.agg #[.int .i64 h0, .int .i64 h1, .int .i64 h2, .int .i64 h3, .int .i64 h4, .int .i64 h5, .int .i64 h6, .int .i64 h7, .slice r n cap, .int .i64 many], .slice da m dcap] w fun e w' => e = .returned (.bool true) ∧ Below w.heap.size w w' := by
  have HSz := hide (fun w => szStream_long h0 h1 h2 h3 h4 h5 h6 h7 r n cap many w hn hb)
  have hz : ¬ (1048576 : Int) < (m : Int) := by omega
  go_enter Try.func6, Try.ntmps6
  go_wp2_with fail
  refine (HSz.out _).mono ?_
  rintro e w1 ⟨rfl, hw1⟩
  obtain ⟨B0, hE, hz⟩ := box1 w [.int .i64 h0, .int .i64 h1, .int .i64 h2, .int .i64 h3, .int .i64 h4, .int .i64 h5, .int .i64 h6, .int .i64 h7, .slice r n cap, .int .i64 many] 37 hw1
  go_wp2
  go_ret
  exact ⟨rfl, hE⟩

theorem row_bseg {w : World} {a : Option Addr} {len cap : Nat} {zs : List Int} (h : IsRow .u8 w a len cap zs) : ∃ b off, BSeg w a b off len (fun i => zs.getD i 0) ∧ len ≤ maxLen ∧ ∀ i, i < len → 0 ≤ zs.getD i 0 ∧ zs.getD i 0 < 256 := by
  rcases h with ⟨rfl, rfl, rfl, rfl⟩ | ⟨x, rfl, hl, hm, hz, hcell, hwz⟩
  · exact ⟨0, 0, ⟨fun h => absurd h (Nat.lt_irrefl _), fun i hi => absurd hi (Nat.not_lt_zero _)⟩, Nat.zero_le _, fun i hi => absurd hi (Nat.not_lt_zero _)⟩
  · obtain ⟨b, off, spot⟩ := x
    by_cases h0 : len = 0
    · subst h0
      exact ⟨0, 0, ⟨fun h => absurd h (Nat.lt_irrefl _), fun i hi => absurd hi (Nat.not_lt_zero _)⟩, Nat.zero_le _, fun i hi => absurd hi (Nat.not_lt_zero _)⟩
    · have hspot : spot = none := by simpa [Addr.add] using World.cell?_spot (hcell 0 (by omega))
      subst hspot
      exact ⟨b, off, ⟨fun _ => rfl, fun i hi => by
        have h := hcell i (by omega)
        have e : Addr.add ⟨b, off, none⟩ i = ⟨b, off + i, none⟩ := by
          by_cases h0 : i = 0
          · subst h0; simp [Addr.add]
          · simp [Addr.add, h0]
        rwa [e] at h⟩, Nat.le_trans hl hm, fun i hi => by
        have hmm : zs.getD i 0 ∈ zs := by
          rw [List.getD_eq_getElem?_getD, List.getElem?_eq_getElem (show i < zs.length by omega)]
          exact List.getElem_mem _
        have := bounds_u8 (hwz _ hmm)
        omega⟩

theorem walk (h0 h1 h2 h3 h4 h5 h6 h7 : Int) (r : Option Addr) (len cap : Nat) (z : List Int) (many : Int) (a1 : Option Addr) (len1 cap1 : Nat) (z1 : List Int) (w : World) (hw : IsRow .u8 w r len cap z) (hw1 : IsRow .u8 w a1 len1 cap1 z1) :
    Calls Try.prog 6 #[.agg #[.int .i64 h0, .int .i64 h1, .int .i64 h2, .int .i64 h3, .int .i64 h4, .int .i64 h5, .int .i64 h6, .int .i64 h7, .slice r len cap, .int .i64 many], .slice a1 len1 cap1] w fun e w' => e = .returned (.bool true) ∧ Below w.heap.size w w' := by
  obtain ⟨b, off, hs, hm, hby⟩ := row_bseg hw
  obtain ⟨db, doff, hd, -, hdy⟩ := row_bseg hw1
  by_cases hl1 : len1 ≤ 1048576
  · by_cases hn : len ≤ 1048576
    · exact law h0 h1 h2 h3 h4 h5 h6 h7 r b off len cap _ many a1 db doff len1 cap1 _ w hs hn hby hd hl1 hdy
    · exact law_long2 h0 h1 h2 h3 h4 h5 h6 h7 r len cap many a1 len1 cap1 w hl1 hn (Nat.le_trans hm (by decide))
  · exact law_long1 h0 h1 h2 h3 h4 h5 h6 h7 r len cap many a1 len1 cap1 w hl1

theorem cellsStream : Try.prog.cellsOf 37 = 10 := by kernel_rfl
theorem cellsA8 : Try.prog.cellsOf 35 = 8 := by kernel_rfl
theorem cellsInt : Try.prog.cellsOf 3 = 1 := by kernel_rfl
theorem cellsBs : Try.prog.cellsOf 22 = 1 := by kernel_rfl

theorem array10 {α : Type} {cs : Array α} (h : cs.size = 10) : ∃ c0 c1 c2 c3 c4 c5 c6 c7 c8 c9, cs = #[c0, c1, c2, c3, c4, c5, c6, c7, c8, c9] := by
  obtain ⟨l⟩ := cs
  match l, h with
  | [c0, c1, c2, c3, c4, c5, c6, c7, c8, c9], _ => exact ⟨c0, c1, c2, c3, c4, c5, c6, c7, c8, c9, rfl⟩

theorem list3 {α : Type} {l : List α} (h : l.length = 3) : ∃ c0 c1 c2, l = [c0, c1, c2] := by
  match l, h with
  | [c0, c1, c2], _ => exact ⟨c0, c1, c2, rfl⟩

theorem list8 {α : Type} {l : List α} (h : l.length = 8) : ∃ c0 c1 c2 c3 c4 c5 c6 c7, l = [c0, c1, c2, c3, c4, c5, c6, c7] := by
  match l, h with
  | [c0, c1, c2, c3, c4, c5, c6, c7], _ => exact ⟨c0, c1, c2, c3, c4, c5, c6, c7, rfl⟩

section
variable {H : Type} {enc : TypeId × Value → H} {w : World} {base : Nat} {held : Bool}

set_option maxRecDepth 100000 in
theorem open_stream {r : Reach} {b0 : Nat} {v : Value} {d : DataW H} {p : List MemPlace} (hv : Value.okWide Try.prog w r b0 37 v) (h : DataW.Trod enc Try.prog w base (fun _ => true) held 37 v d p) :
    ∃ (h0 h1 h2 h3 h4 h5 h6 h7 many : Int) (a : Option Addr) (len cap : Nat) (zs : List Int), v = .agg #[.int .i64 h0, .int .i64 h1, .int .i64 h2, .int .i64 h3, .int .i64 h4, .int .i64 h5, .int .i64 h6, .int .i64 h7, .slice a len cap, .int .i64 many] ∧ IsRow .u8 w a len cap zs := by
  obtain ⟨cs, rfl, hsz⟩ := okWide_struct Try.underlying37 hv
  obtain ⟨c0, c1, c2, c3, c4, c5, c6, c7, c8, c9, rfl⟩ := array10 (hsz.trans cellsStream)
  obtain ⟨fuel, hf⟩ := h
  obtain ⟨xs, n, _, hx, _, hlen, hel⟩ := DataW.trod_struct Try.underlying37 hf
  obtain ⟨y0, y1, y2, rfl⟩ := list3 hlen
  have e0 := hel 0 _ rfl
  have e1 := hel 1 _ rfl
  have e2 := hel 2 _ rfl
  simp only [Value.cells] at e0 e1 e2
  simp [cellsA8, cellsInt, cellsBs] at e0 e1 e2
  obtain ⟨zs, m, _, _, _, hl8, ha⟩ := DataW.trod_array Try.underlying35 e0
  obtain ⟨x0, x1, x2, x3, x4, x5, x6, x7, rfl⟩ := list8 hl8
  have a0 := ha 0 (by omega)
  have a1 := ha 1 (by omega)
  have a2 := ha 2 (by omega)
  have a3 := ha 3 (by omega)
  have a4 := ha 4 (by omega)
  have a5 := ha 5 (by omega)
  have a6 := ha 6 (by omega)
  have a7 := ha 7 (by omega)
  simp [cellsInt] at a0 a1 a2 a3 a4 a5 a6 a7
  obtain ⟨h0, q0, _, _⟩ := DataW.trod_int Try.underlying3 a0
  obtain ⟨h1, q1, _, _⟩ := DataW.trod_int Try.underlying3 a1
  obtain ⟨h2, q2, _, _⟩ := DataW.trod_int Try.underlying3 a2
  obtain ⟨h3, q3, _, _⟩ := DataW.trod_int Try.underlying3 a3
  obtain ⟨h4, q4, _, _⟩ := DataW.trod_int Try.underlying3 a4
  obtain ⟨h5, q5, _, _⟩ := DataW.trod_int Try.underlying3 a5
  obtain ⟨h6, q6, _, _⟩ := DataW.trod_int Try.underlying3 a6
  obtain ⟨h7, q7, _, _⟩ := DataW.trod_int Try.underlying3 a7
  obtain ⟨many, q9, _, _⟩ := DataW.trod_int Try.underlying3 e2
  simp at q0 q1 q2 q3 q4 q5 q6 q7 q9
  subst q0 q1 q2 q3 q4 q5 q6 q7 q9
  rcases open_ints Try.underlying22 Try.underlying5 (by kernel_rfl) e1 with ⟨hcs, _⟩ | ⟨x, l, c, zs, hcs, _, hl, hm, hz, _, hcell, hwz⟩
  · simp at hcs
    subst hcs
    exact ⟨h0, h1, h2, h3, h4, h5, h6, h7, many, none, 0, 0, [], rfl, .inl ⟨rfl, rfl, rfl, rfl⟩⟩
  · simp at hcs
    subst hcs
    exact ⟨h0, h1, h2, h3, h4, h5, h6, h7, many, some x, l, c, zs, rfl, .inr ⟨_, rfl, hl, hm, by simpa using hz, hcell, hwz⟩⟩

end

/-! ### THE ROW's STEP -/
set_option maxRecDepth 100000 in
theorem lifted (os : Os) (started : os.Started) (H : Type) (enc : TypeId × Value → H) :
    ReturnsInHanded {} Try.checked os 6 .any (Rows.fnExactFeedSpec.pre6 enc Try.prog Try.f6 Rows.fnExactFeedRow.domain false) (Rows.fnExactFeedSpec.post enc Try.prog Try.f6 false true false false) := by
  refine returnsInHanded_of_change (C := Try.checked) own started (by kernel_rfl) Try.func6
    (ChangeSpec.witness6 (enc := enc) (C := Try.checked) false ⟨#[], #[.agg #[.int .i64 0, .int .i64 0, .int .i64 0, .int .i64 0, .int .i64 0, .int .i64 0, .int .i64 0, .int .i64 0, .slice none 0 0, .int .i64 0], .slice none 0 0], []⟩ 8 (by kernel_rfl) (by kernel_rfl) (by kernel_rfl) (by kernel_rfl)) ?_
  intro W base args ds gs before hval0 hW hcnd _
  have hval : ∀ (j : Nat) t v, Try.f6.params[j]? = some t → args[j]? = some v → Value.okWide Try.prog W .any base t v := hval0
  have hW' := hW
  obtain ⟨p, q, hA0, hV, rfl, hfz, hnd⟩ := hW
  have hA : DataW.TrodAll enc Try.prog W 0 (fun _ => true) true Try.f6.params.toList args.toList ds p := hA0
  rw [Try.params6] at hA hval
  obtain ⟨v0, vs0, d0, ds0, p0, q0, hargs, rfl, rfl, h0, r0⟩ := trodAll_cons hA
  obtain ⟨v1, vs1, d1, ds1, p1, q1, rfl, rfl, rfl, h1, r1⟩ := trodAll_cons r0
  obtain ⟨rfl, rfl, rfl⟩ := trodAll_nil r1
  obtain rfl : args = #[v0, v1] := by cases args; simp_all
  obtain ⟨rfl, rfl⟩ := trodVars_none hV
  have k0 := h0
  have lt0 : ∀ x ∈ p0, x.block < W.heap.size := by obtain ⟨m, hm⟩ := k0; exact DataW.trod_lt m _ _ _ hm
  obtain ⟨g0, g1, g2, g3, g4, g5, g6, g7, many, a, len, cap, zs, rfl, hrow⟩ := open_stream (hval 0 37 v0 rfl rfl) h0
  obtain ⟨b1, len1, cap1, rfl⟩ := okWide_slice Try.underlying22 (hval 1 22 v1 rfl rfl)
  have k1 := h1
  have lt1 : ∀ x ∈ p1, x.block < W.heap.size := by obtain ⟨m, hm⟩ := k1; exact DataW.trod_lt m _ _ _ hm
  obtain ⟨z1, w1⟩ : ∃ zs, IsRow .u8 W b1 len1 cap1 zs := by
    obtain ⟨fuel, hf⟩ := h1
    rcases open_ints Try.underlying22 Try.underlying5 (by kernel_rfl) hf with ⟨hcs, _⟩ | ⟨x, l, c, zs, hcs, _, hl, hm, hz, _, hcell, hwz⟩
    · simp [Value.cells] at hcs
      obtain ⟨rfl, rfl, rfl⟩ := hcs
      exact ⟨[], .inl ⟨rfl, rfl, rfl, rfl⟩⟩
    · simp [Value.cells] at hcs
      obtain ⟨rfl, rfl, rfl⟩ := hcs
      exact ⟨zs, .inr ⟨_, rfl, hl, hm, by simpa using hz, hcell, hwz⟩⟩
  clear hA0 hval0
  refine (walk g0 g1 g2 g3 g4 g5 g6 g7 a len cap zs many b1 len1 cap1 z1 W hrow w1).mono fun e W' ⟨he, bel⟩ => ?_
  subst he
  exact ⟨_, rfl, _, _, _, [], _, [], hW', trodAll_mk1 (shut_bool Try.underlying4 _), (trodAll_cons_mk (Below.trod laidOut (by kernel_rfl) (of_decide_eq_true (by kernel_rfl)) k0 bel lt0) (trodAll_cons_mk (Below.trod laidOut (by kernel_rfl) (of_decide_eq_true (by kernel_rfl)) k1 bel lt1) trodAll_mk0)), rfl, bel.frame _, fun h => by cases h⟩

theorem over : Rows.fnExactFeedRow.holds Try.pinned (OpenSpec.ofChange Rows.fnExactFeedSpec) :=
  OpenClaim.holds_of_wide 6 Try.f6 rfl rfl rfl rfl rfl rfl rfl ⟨rfl, rfl, rfl, rfl, rfl⟩ rfl rfl rfl rfl rfl (by kernel_rfl) Try.func6 (by kernel_rfl)
    (of_decide_eq_true (by kernel_rfl)) (by unfold Func.isWrapper; first | (rw [if_pos (by decide +kernel)]; kernel_rfl) | (rw [if_neg (by decide +kernel)]; exact ⟨rfl, rfl⟩))
    (fun os started H enc _ => lifted os started H enc)

theorem proved : Rows.FnExactFeedSaid := over
end Go.Proofs.Ythgdempjpndhgaa.fnExactFeed

namespace Go.Proofs.Ythgdempjpndhgaa
/-- The given statement. -/
theorem fnExactFeed_holds : Rows.FnExactFeedSaid := fnExactFeed.proved
#print axioms fnExactFeed_holds
end Go.Proofs.Ythgdempjpndhgaa
