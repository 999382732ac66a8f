/- Proved: at every stream the law FnExactStreamOk answers true: the program's StreamOk answers as the model's and writes into no argument (a stream with more than 1048576 bytes of rest: the law itself answers true at once). No other condition. -/
import Derived.Test.YtjclfkfcmlbojaaRows
import Derived.WalkKit
import Derived.ProofKit
import Derived.OpenShut
import Derived.ShutString
import Derived.ChangeOld
import Derived.Below
import Derived.Test.YtjclfkfcmlbojaaStrL
namespace Go.Proofs.Ytjclfkfcmlbojaa.fnExactStreamOk
open Go.ChangeShapes Go.WideShapes Go.ChangeAt Go.RowKit
open Go.ChangeMaps (open_string shut_string)
set_option linter.unusedVariables false
set_option linter.unusedSimpArgs false

theorem own : ownKnob Try.prog.godebug = none := by kernel_rfl
theorem laidOut : laidOutB Try.prog = true := by kernel_rfl

/-- A slice of integers that came in: nil, or a row of cap cells, the numbers zs. -/
def IsRow (k : IntKind) (w : World) (a : Option Addr) (len cap : Nat) (zs : List Int) : Prop :=
  (a = none ∧ len = 0 ∧ cap = 0 ∧ zs = []) ∨
  ∃ x, a = some x ∧ len ≤ cap ∧ cap ≤ maxLen ∧ zs.length = cap ∧ (∀ i, i < zs.length → w.cell? (x.add i) = some (.int k (zs.getD i 0))) ∧ ∀ n ∈ zs, (Lit.int k n).wf = true

set_option maxHeartbeats 3200000 in
set_option maxRecDepth 100000 in
theorem law (h0 h1 h2 h3 h4 h5 h6 h7 : Int) (r : Option Addr) (b off n cap : Nat) (f : Nat → Int) (many : Int) (w : World) (hs : BSeg w r b off n f) (hn : n ≤ 1048576) :
    Calls Try.prog 3 #[.agg #[.int .i64 h0, .int .i64 h1, .int .i64 h2, .int .i64 h3, .int .i64 h4, .int .i64 h5, .int .i64 h6, .int .i64 h7, .slice r n cap, .int .i64 many]] w fun e w' => e = .returned (.bool true) ∧ Below w.heap.size w w' := by
  obtain ⟨ok, hk⟩ : ∃ ok : Bool, ok = true ↔ StrOk (fun i => if i = 0 then h0 else if i = 1 then h1 else if i = 2 then h2 else if i = 3 then h3 else if i = 4 then h4 else if i = 5 then h5 else if i = 6 then h6 else h7) n many := by
    by_cases q : StrOk (fun i => if i = 0 then h0 else if i = 1 then h1 else if i = 2 then h2 else if i = 3 then h3 else if i = 4 then h4 else if i = 5 then h5 else if i = 6 then h6 else h7) n many
    · exact ⟨true, fun _ => q, fun _ => rfl⟩
    · exact ⟨false, fun e => (by cases e), fun e => absurd e q⟩
  have HSp : Hid (∀ (g : Nat) (W : World), Calls Try.prog 5 #[.agg #[.int .i64 h0, .int .i64 h1, .int .i64 h2, .int .i64 h3, .int .i64 h4, .int .i64 h5, .int .i64 h6, .int .i64 h7, .slice (some ⟨g, 0, none⟩) n n, .int .i64 many]] W fun e w' => e = .returned (.bool ok) ∧ Ext W w') := fun g W => specStreamOk_at (fun i => if i = 0 then h0 else if i = 1 then h1 else if i = 2 then h2 else if i = 3 then h3 else if i = 4 then h4 else if i = 5 then h5 else if i = 6 then h6 else h7) (some ⟨g, 0, none⟩) n n many ok hk W
  have HIm : Hid (∀ (g : Nat) (W : World), Calls Try.prog 7 #[.agg #[.int .i64 h0, .int .i64 h1, .int .i64 h2, .int .i64 h3, .int .i64 h4, .int .i64 h5, .int .i64 h6, .int .i64 h7, .slice (some ⟨g, 0, none⟩) n n, .int .i64 many]] W fun e w' => e = .returned (.bool ok) ∧ Ext W w') := fun g W => implStreamOk_at (fun i => if i = 0 then h0 else if i = 1 then h1 else if i = 2 then h2 else if i = 3 then h3 else if i = 4 then h4 else if i = 5 then h5 else if i = 6 then h6 else h7) (some ⟨g, 0, none⟩) n n many ok hk W
  have HSz := hide (fun w => szStream_at h0 h1 h2 h3 h4 h5 h6 h7 r n cap many w hn)
  have HTo : Hid (∀ W : World, Ext w W → Calls Try.prog 6 #[.agg #[.int .i64 h0, .int .i64 h1, .int .i64 h2, .int .i64 h3, .int .i64 h4, .int .i64 h5, .int .i64 h6, .int .i64 h7, .slice r n cap, .int .i64 many]] W fun e w' => GivesStr h0 h1 h2 h3 h4 h5 h6 h7 n f many W e w') := fun W e => toStream_any h0 h1 h2 h3 h4 h5 h6 h7 r b off n cap f many W (hs.of_all e) hn
  have Hn := hide hn
  clear hk hs
  have hnn : ¬ (1048576 - (n : Int) < 0) := by omega
  go_enter Try.func3, Try.ntmps3
  go_wp2_with fail
  refine (HSz.out _).mono ?_
  rintro e w1 ⟨rfl, hw1⟩
  obtain ⟨B0, hE, hz⟩ := box1 w [.int .i64 h0, .int .i64 h1, .int .i64 h2, .int .i64 h3, .int .i64 h4, .int .i64 h5, .int .i64 h6, .int .i64 h7, .slice r n cap, .int .i64 many] 25 hw1
  clear hw1 HSz
  have k0 := (B0 0 _ rfl).1
  have k1 := (B0 1 _ rfl).1
  have k2 := (B0 2 _ rfl).1
  have k3 := (B0 3 _ rfl).1
  have k4 := (B0 4 _ rfl).1
  have k5 := (B0 5 _ rfl).1
  have k6 := (B0 6 _ rfl).1
  have k7 := (B0 7 _ rfl).1
  have k8 := (B0 8 _ rfl).1
  have k9 := (B0 9 _ rfl).1
  go_wp2_with fail
  clear k0 k1 k2 k3 k4 k5 k6 k7 k8 k9
  refine (HTo.out _ hE).mono ?_
  rintro e w2 ⟨g, rfl, R2, hg, hg2, hw2⟩
  replace B0 := B0.ext hw2 (by omega)
  replace hE := hE.trans hw2
  have hz2 : w.heap.size + 1 ≤ w2.heap.size := Nat.le_trans hz (Below.size hw2)
  clear hw2 hz R2 hg hg2
  go_wp2_with fail
  refine (HSp.out g _).mono ?_
  rintro e w3 ⟨rfl, hw3⟩
  replace B0 := B0.ext hw3 (by omega)
  replace hE := hE.trans hw3
  have hz3 : w.heap.size + 1 ≤ w3.heap.size := Nat.le_trans hz2 (Below.size hw3)
  clear hw3 hz2 HSp
  have k0 := (B0 0 _ rfl).1
  have k1 := (B0 1 _ rfl).1
  have k2 := (B0 2 _ rfl).1
  have k3 := (B0 3 _ rfl).1
  have k4 := (B0 4 _ rfl).1
  have k5 := (B0 5 _ rfl).1
  have k6 := (B0 6 _ rfl).1
  have k7 := (B0 7 _ rfl).1
  have k8 := (B0 8 _ rfl).1
  have k9 := (B0 9 _ rfl).1
  go_wp2_with fail
  clear k0 k1 k2 k3 k4 k5 k6 k7 k8 k9
  refine (HTo.out _ hE).mono ?_
  rintro e w4 ⟨g, rfl, R4, hg, hg2, hw4⟩
  have X4 := Ext.alloc w4 (.cells #[.int .i64 h0, .int .i64 h1, .int .i64 h2, .int .i64 h3, .int .i64 h4, .int .i64 h5, .int .i64 h6, .int .i64 h7, .slice (some ⟨g, 0, none⟩) n n, .int .i64 many] 28)
  have T4 : Blk (w4.alloc (.cells #[.int .i64 h0, .int .i64 h1, .int .i64 h2, .int .i64 h3, .int .i64 h4, .int .i64 h5, .int .i64 h6, .int .i64 h7, .slice (some ⟨g, 0, none⟩) n n, .int .i64 many] 28)) w4.heap.size [.int .i64 h0, .int .i64 h1, .int .i64 h2, .int .i64 h3, .int .i64 h4, .int .i64 h5, .int .i64 h6, .int .i64 h7, .slice (some ⟨g, 0, none⟩) n n, .int .i64 many] := Blk.alloc w4 [.int .i64 h0, .int .i64 h1, .int .i64 h2, .int .i64 h3, .int .i64 h4, .int .i64 h5, .int .i64 h6, .int .i64 h7, .slice (some ⟨g, 0, none⟩) n n, .int .i64 many] 28
  have h44 := hw4.trans X4
  replace B0 := B0.ext h44 (by omega)
  replace hE := hE.trans h44
  replace R4 := R4.of_all X4
  have hz4 : w.heap.size + 1 ≤ w4.heap.size := Nat.le_trans hz3 (Below.size hw4)
  clear hw4 X4 h44 hz3
  have t0 := (T4 0 _ rfl).1
  have t1 := (T4 1 _ rfl).1
  have t2 := (T4 2 _ rfl).1
  have t3 := (T4 3 _ rfl).1
  have t4 := (T4 4 _ rfl).1
  have t5 := (T4 5 _ rfl).1
  have t6 := (T4 6 _ rfl).1
  have t7 := (T4 7 _ rfl).1
  have t8 := (T4 8 _ rfl).1
  have t9 := (T4 9 _ rfl).1
  go_wp2_with fail
  clear t0 t1 t2 t3 t4 t5 t6 t7 t8 t9
  refine (HIm.out g _).mono ?_
  rintro e w5 ⟨rfl, hw5⟩
  replace B0 := B0.ext hw5 (by simp; omega)
  replace T4 := T4.ext hw5 (by simp)
  replace hE := hE.trans hw5
  replace R4 := hide (R4.of_all hw5)
  have hz5 : w4.heap.size < w5.heap.size := by have := Below.size hw5; simp at this; omega
  clear hw5 HIm
  generalize w4.heap.size = S at *
  have hok : (ok != ok) = false := by simp
  go_wp2
  obtain ⟨X, hX⟩ : ∃ X : Nat → Prop, X = fun _ => False := ⟨_, rfl⟩
  have x0 : ∀ k, k < w5.heap.size → ¬ X k := fun k h => by rw [hX]; exact fun e => e
  clear hX
  have k0 := cell_reC (B0 0 _ rfl).1 (x0 _ (by first | omega | (simp only; omega)))
  have k1 := cell_reC (B0 1 _ rfl).1 (x0 _ (by first | omega | (simp only; omega)))
  have k2 := cell_reC (B0 2 _ rfl).1 (x0 _ (by first | omega | (simp only; omega)))
  have k3 := cell_reC (B0 3 _ rfl).1 (x0 _ (by first | omega | (simp only; omega)))
  have k4 := cell_reC (B0 4 _ rfl).1 (x0 _ (by first | omega | (simp only; omega)))
  have k5 := cell_reC (B0 5 _ rfl).1 (x0 _ (by first | omega | (simp only; omega)))
  have k6 := cell_reC (B0 6 _ rfl).1 (x0 _ (by first | omega | (simp only; omega)))
  have k7 := cell_reC (B0 7 _ rfl).1 (x0 _ (by first | omega | (simp only; omega)))
  have k8 := cell_reC (B0 8 _ rfl).1 (x0 _ (by first | omega | (simp only; omega)))
  have k9 := cell_reC (B0 9 _ rfl).1 (x0 _ (by first | omega | (simp only; omega)))
  have t0 := cell_reC (T4 0 _ rfl).1 (x0 _ (by first | omega | (simp only; omega)))
  have t1 := cell_reC (T4 1 _ rfl).1 (x0 _ (by first | omega | (simp only; omega)))
  have t2 := cell_reC (T4 2 _ rfl).1 (x0 _ (by first | omega | (simp only; omega)))
  have t3 := cell_reC (T4 3 _ rfl).1 (x0 _ (by first | omega | (simp only; omega)))
  have t4 := cell_reC (T4 4 _ rfl).1 (x0 _ (by first | omega | (simp only; omega)))
  have t5 := cell_reC (T4 5 _ rfl).1 (x0 _ (by first | omega | (simp only; omega)))
  have t6 := cell_reC (T4 6 _ rfl).1 (x0 _ (by first | omega | (simp only; omega)))
  have t7 := cell_reC (T4 7 _ rfl).1 (x0 _ (by first | omega | (simp only; omega)))
  have t8 := cell_reC (T4 8 _ rfl).1 (x0 _ (by first | omega | (simp only; omega)))
  have t9 := cell_reC (T4 9 _ rfl).1 (x0 _ (by first | omega | (simp only; omega)))
  refine anyK_begin X 5 rfl (by kernel_rfl) ?_
  refine anyK_take 0 2 3 rfl (by decide) (by kernel_rfl) (fun _ _ d _ _ h => by cases d <;> exact h) ?_
  repeat (refine headC_step (fun K hK => ?_); go_simp; first | (refine hK _ ?_; clear hK K) | (apply Exists.intro; refine ⟨fun _ => ?_, hK _ ?_⟩; (fail); clear hK K))
  refine headC_nil ?_
  clear k0 k1 k2 k3 k4 k5 k6 k7 k8 k9 t0 t1 t2 t3 t4 t5 t6 t7 t8 t9
  refine anyK_one 2 (by kernel_rfl) ?_
  refine stepK_run rfl ?_
  intro wa ha K hK
  go_simp
  refine (HTo.out _ (hE.trans ha)).mono ?_
  rintro e wb ⟨g2, rfl, R6, -, -, hb⟩
  have hx := ha.trans hb
  replace R4 := hide (R4.out.of_all hx)
  replace R6 := hide R6
  go_simp
  refine hK _ _ (.of_ext hx) ?_
  clear hK K ha hb HTo
  refine anyK_one 3 (by kernel_rfl) ?_
  refine stepK_run rfl ?_
  intro wc hc K hK
  go_simp
  refine (eqStream_same h0 h1 h2 h3 h4 h5 h6 h7 g g2 n f many _ (R4.out.of_all hc) (R6.out.of_all hc) Hn.out).mono ?_
  rintro e wd ⟨rfl, hd⟩
  have hx2 := hx.trans (hc.trans hd)
  go_simp
  refine hK _ _ (.of_ext hx2) ?_
  clear hK K hc hd hx
  refine anyK_take 4 1 0 rfl (by decide) (by kernel_rfl) (fun _ _ d _ _ h => by cases d <;> exact h) ?_
  repeat (refine headC_step (fun K hK => ?_); go_simp; first | (refine hK _ ?_; clear hK K) | (apply Exists.intro; refine ⟨fun _ => ?_, hK _ ?_⟩; (fail); clear hK K))
  refine headC_nil ?_
  refine anyK_done (by kernel_rfl) ?_ 0
  intro we he
  go_wp2
  go_ret
  exact ⟨rfl, (hE.trans hx2).trans he⟩

set_option maxRecDepth 100000 in
theorem law_long (h0 h1 h2 h3 h4 h5 h6 h7 : Int) (r : Option Addr) (n cap : Nat) (many : Int) (w : World) (hn : ¬ n ≤ 1048576) (hm : n ≤ 9223372036854775807) :
    Calls Try.prog 3 #[.agg #[.int .i64 h0, .int .i64 h1, .int .i64 h2, .int .i64 h3, .int .i64 h4, .int .i64 h5, .int .i64 h6, .int .i64 h7, .slice r n cap, .int .i64 many]] w fun e w' => e = .returned (.bool true) ∧ Below w.heap.size w w' := by
  have HSz := hide (fun w => szStream_long h0 h1 h2 h3 h4 h5 h6 h7 r n cap many w hn hm)
  go_enter Try.func3, Try.ntmps3
  go_wp2_with fail
  refine (HSz.out _).mono ?_
  rintro e w1 ⟨rfl, hw1⟩
  obtain ⟨B0, hE, hz⟩ := box1 w [.int .i64 h0, .int .i64 h1, .int .i64 h2, .int .i64 h3, .int .i64 h4, .int .i64 h5, .int .i64 h6, .int .i64 h7, .slice r n cap, .int .i64 many] 25 hw1
  go_wp2
  go_ret
  exact ⟨rfl, hE⟩

theorem row_bseg {w : World} {a : Option Addr} {len cap : Nat} {zs : List Int} (h : IsRow .u8 w a len cap zs) : ∃ b off, BSeg w a b off len (fun i => zs.getD i 0) ∧ len ≤ maxLen := by
  rcases h with ⟨rfl, rfl, rfl, rfl⟩ | ⟨x, rfl, hl, hm, hz, hcell, hwz⟩
  · exact ⟨0, 0, ⟨fun h => absurd h (Nat.lt_irrefl _), fun i hi => absurd hi (Nat.not_lt_zero _)⟩, Nat.zero_le _⟩
  · obtain ⟨b, off, spot⟩ := x
    by_cases h0 : len = 0
    · subst h0
      exact ⟨0, 0, ⟨fun h => absurd h (Nat.lt_irrefl _), fun i hi => absurd hi (Nat.not_lt_zero _)⟩, Nat.zero_le _⟩
    · have hspot : spot = none := by simpa [Addr.add] using World.cell?_spot (hcell 0 (by omega))
      subst hspot
      exact ⟨b, off, ⟨fun _ => rfl, fun i hi => by
        have h := hcell i (by omega)
        have e : Addr.add ⟨b, off, none⟩ i = ⟨b, off + i, none⟩ := by
          by_cases h0 : i = 0
          · subst h0; simp [Addr.add]
          · simp [Addr.add, h0]
        rwa [e] at h⟩, Nat.le_trans hl hm⟩

theorem walk (h0 h1 h2 h3 h4 h5 h6 h7 : Int) (r : Option Addr) (len cap : Nat) (z : List Int) (many : Int) (w : World) (hw : IsRow .u8 w r len cap z) :
    Calls Try.prog 3 #[.agg #[.int .i64 h0, .int .i64 h1, .int .i64 h2, .int .i64 h3, .int .i64 h4, .int .i64 h5, .int .i64 h6, .int .i64 h7, .slice r len cap, .int .i64 many]] w fun e w' => e = .returned (.bool true) ∧ Below w.heap.size w w' := by
  obtain ⟨b, off, hs, hm⟩ := row_bseg hw
  by_cases hn : len ≤ 1048576
  · exact law h0 h1 h2 h3 h4 h5 h6 h7 r b off len cap _ many w hs hn
  · exact law_long h0 h1 h2 h3 h4 h5 h6 h7 r len cap many w hn (Nat.le_trans hm (by decide))

theorem cellsStream : Try.prog.cellsOf 25 = 10 := by kernel_rfl
theorem cellsA8 : Try.prog.cellsOf 22 = 8 := by kernel_rfl
theorem cellsInt : Try.prog.cellsOf 3 = 1 := by kernel_rfl
theorem cellsBs : Try.prog.cellsOf 23 = 1 := by kernel_rfl

theorem array10 {α : Type} {cs : Array α} (h : cs.size = 10) : ∃ c0 c1 c2 c3 c4 c5 c6 c7 c8 c9, cs = #[c0, c1, c2, c3, c4, c5, c6, c7, c8, c9] := by
  obtain ⟨l⟩ := cs
  match l, h with
  | [c0, c1, c2, c3, c4, c5, c6, c7, c8, c9], _ => exact ⟨c0, c1, c2, c3, c4, c5, c6, c7, c8, c9, rfl⟩

theorem list3 {α : Type} {l : List α} (h : l.length = 3) : ∃ c0 c1 c2, l = [c0, c1, c2] := by
  match l, h with
  | [c0, c1, c2], _ => exact ⟨c0, c1, c2, rfl⟩

theorem list8 {α : Type} {l : List α} (h : l.length = 8) : ∃ c0 c1 c2 c3 c4 c5 c6 c7, l = [c0, c1, c2, c3, c4, c5, c6, c7] := by
  match l, h with
  | [c0, c1, c2, c3, c4, c5, c6, c7], _ => exact ⟨c0, c1, c2, c3, c4, c5, c6, c7, rfl⟩

section
variable {H : Type} {enc : TypeId × Value → H} {w : World} {base : Nat} {held : Bool}

set_option maxRecDepth 100000 in
theorem open_stream {r : Reach} {b0 : Nat} {v : Value} {d : DataW H} {p : List MemPlace} (hv : Value.okWide Try.prog w r b0 25 v) (h : DataW.Trod enc Try.prog w base (fun _ => true) held 25 v d p) :
    ∃ (h0 h1 h2 h3 h4 h5 h6 h7 many : Int) (a : Option Addr) (len cap : Nat) (zs : List Int), v = .agg #[.int .i64 h0, .int .i64 h1, .int .i64 h2, .int .i64 h3, .int .i64 h4, .int .i64 h5, .int .i64 h6, .int .i64 h7, .slice a len cap, .int .i64 many] ∧ IsRow .u8 w a len cap zs := by
  obtain ⟨cs, rfl, hsz⟩ := okWide_struct Try.underlying25 hv
  obtain ⟨c0, c1, c2, c3, c4, c5, c6, c7, c8, c9, rfl⟩ := array10 (hsz.trans cellsStream)
  obtain ⟨fuel, hf⟩ := h
  obtain ⟨xs, n, _, hx, _, hlen, hel⟩ := DataW.trod_struct Try.underlying25 hf
  obtain ⟨y0, y1, y2, rfl⟩ := list3 hlen
  have e0 := hel 0 _ rfl
  have e1 := hel 1 _ rfl
  have e2 := hel 2 _ rfl
  simp only [Value.cells] at e0 e1 e2
  simp [cellsA8, cellsInt, cellsBs] at e0 e1 e2
  obtain ⟨zs, m, _, _, _, hl8, ha⟩ := DataW.trod_array Try.underlying22 e0
  obtain ⟨x0, x1, x2, x3, x4, x5, x6, x7, rfl⟩ := list8 hl8
  have a0 := ha 0 (by omega)
  have a1 := ha 1 (by omega)
  have a2 := ha 2 (by omega)
  have a3 := ha 3 (by omega)
  have a4 := ha 4 (by omega)
  have a5 := ha 5 (by omega)
  have a6 := ha 6 (by omega)
  have a7 := ha 7 (by omega)
  simp [cellsInt] at a0 a1 a2 a3 a4 a5 a6 a7
  obtain ⟨h0, q0, _, _⟩ := DataW.trod_int Try.underlying3 a0
  obtain ⟨h1, q1, _, _⟩ := DataW.trod_int Try.underlying3 a1
  obtain ⟨h2, q2, _, _⟩ := DataW.trod_int Try.underlying3 a2
  obtain ⟨h3, q3, _, _⟩ := DataW.trod_int Try.underlying3 a3
  obtain ⟨h4, q4, _, _⟩ := DataW.trod_int Try.underlying3 a4
  obtain ⟨h5, q5, _, _⟩ := DataW.trod_int Try.underlying3 a5
  obtain ⟨h6, q6, _, _⟩ := DataW.trod_int Try.underlying3 a6
  obtain ⟨h7, q7, _, _⟩ := DataW.trod_int Try.underlying3 a7
  obtain ⟨many, q9, _, _⟩ := DataW.trod_int Try.underlying3 e2
  simp at q0 q1 q2 q3 q4 q5 q6 q7 q9
  subst q0 q1 q2 q3 q4 q5 q6 q7 q9
  rcases open_ints Try.underlying23 Try.underlying5 (by kernel_rfl) e1 with ⟨hcs, _⟩ | ⟨x, l, c, zs, hcs, _, hl, hm, hz, _, hcell, hwz⟩
  · simp at hcs
    subst hcs
    exact ⟨h0, h1, h2, h3, h4, h5, h6, h7, many, none, 0, 0, [], rfl, .inl ⟨rfl, rfl, rfl, rfl⟩⟩
  · simp at hcs
    subst hcs
    exact ⟨h0, h1, h2, h3, h4, h5, h6, h7, many, some x, l, c, zs, rfl, .inr ⟨_, rfl, hl, hm, by simpa using hz, hcell, hwz⟩⟩

end

/-! ### THE ROW's STEP -/
set_option maxRecDepth 100000 in
theorem lifted (os : Os) (started : os.Started) (H : Type) (enc : TypeId × Value → H) :
    ReturnsInHanded {} Try.checked os 3 .any (Rows.fnExactStreamOkSpec.pre6 enc Try.prog Try.f3 Rows.fnExactStreamOkRow.domain false) (Rows.fnExactStreamOkSpec.post enc Try.prog Try.f3 false true false false) := by
  refine returnsInHanded_of_change (C := Try.checked) own started (by kernel_rfl) Try.func3
    (ChangeSpec.witness6 (enc := enc) (C := Try.checked) false ⟨#[], #[.agg #[.int .i64 0, .int .i64 0, .int .i64 0, .int .i64 0, .int .i64 0, .int .i64 0, .int .i64 0, .int .i64 0, .slice none 0 0, .int .i64 0]], []⟩ 8 (by kernel_rfl) (by kernel_rfl) (by kernel_rfl) (by kernel_rfl)) ?_
  intro W base args ds gs before hval0 hW hcnd _
  have hval : ∀ (j : Nat) t v, Try.f3.params[j]? = some t → args[j]? = some v → Value.okWide Try.prog W .any base t v := hval0
  have hW' := hW
  obtain ⟨p, q, hA0, hV, rfl, hfz, hnd⟩ := hW
  have hA : DataW.TrodAll enc Try.prog W 0 (fun _ => true) true Try.f3.params.toList args.toList ds p := hA0
  rw [Try.params3] at hA hval
  obtain ⟨v0, vs0, d0, ds0, p0, q0, hargs, rfl, rfl, h0, r0⟩ := trodAll_cons hA
  obtain ⟨rfl, rfl, rfl⟩ := trodAll_nil r0
  obtain rfl : args = #[v0] := by cases args; simp_all
  obtain ⟨rfl, rfl⟩ := trodVars_none hV
  have k0 := h0
  have lt0 : ∀ x ∈ p0, x.block < W.heap.size := by obtain ⟨m, hm⟩ := k0; exact DataW.trod_lt m _ _ _ hm
  obtain ⟨g0, g1, g2, g3, g4, g5, g6, g7, many, a, len, cap, zs, rfl, hrow⟩ := open_stream (hval 0 25 v0 rfl rfl) h0
  clear hA0 hval0
  refine (walk g0 g1 g2 g3 g4 g5 g6 g7 a len cap zs many W hrow).mono fun e W' ⟨he, bel⟩ => ?_
  subst he
  exact ⟨_, rfl, _, _, _, [], _, [], hW', trodAll_mk1 (shut_bool Try.underlying4 _), (trodAll_cons_mk (Below.trod laidOut (by kernel_rfl) (of_decide_eq_true (by kernel_rfl)) k0 bel lt0) trodAll_mk0), rfl, bel.frame _, fun h => by cases h⟩

theorem over : Rows.fnExactStreamOkRow.holds Try.pinned (OpenSpec.ofChange Rows.fnExactStreamOkSpec) :=
  OpenClaim.holds_of_wide 3 Try.f3 rfl rfl rfl rfl rfl rfl rfl ⟨rfl, rfl, rfl, rfl, rfl⟩ rfl rfl rfl rfl rfl (by kernel_rfl) Try.func3 (by kernel_rfl)
    (of_decide_eq_true (by kernel_rfl)) (by unfold Func.isWrapper; first | (rw [if_pos (by decide +kernel)]; kernel_rfl) | (rw [if_neg (by decide +kernel)]; exact ⟨rfl, rfl⟩))
    (fun os started H enc _ => lifted os started H enc)

theorem proved : Rows.FnExactStreamOkSaid := over
end Go.Proofs.Ytjclfkfcmlbojaa.fnExactStreamOk

namespace Go.Proofs.Ytjclfkfcmlbojaa
/-- The given statement. -/
theorem fnExactStreamOk_holds : Rows.FnExactStreamOkSaid := fnExactStreamOk.proved
#print axioms fnExactStreamOk_holds
end Go.Proofs.Ytjclfkfcmlbojaa
