/- Walks of the law's marks: markIntS writes k, k+1, .. into a slice that may be written; heldIntS finds them there. Walks: marks in lists of strings; what marks may have turned. Lists as fields of a copy: one's own, and where they lie. Walks: a copy of a list of what is void whose lists are one's own; its marks (written by mkclw.py). -/
import Derived.Test.YtgdjaapjdmancaaGreatDoorChecked
import Derived.Test.YtgdjaapjdmancaaGreatDoorCy01
import Derived.Test.YtgdjaapjdmancaaGreatDoorCy02
import Derived.Test.YtgdjaapjdmancaaGreatDoorCy05
import Derived.Test.YtgdjaapjdmancaaGreatDoorCy08
import Derived.Test.YtgdjaapjdmancaaGreatDoorCy17
import Derived.Test.YtgdjaapjdmancaaGreatDoorCy20
import Derived.Test.YtgdjaapjdmancaaGreatDoorCy29
namespace Go.Proofs.YtgdjaapjdmancaaGreatDoor

section
set_option linter.unusedVariables false

open Go.RowKit

set_option maxHeartbeats 400000 in
theorem markIntS_any (a : Option Addr) (g off n cap : Nat) (f : Nat → Int) (k : Int) (w : World) (hs : Own w a g off n f) (hn : n ≤ 1048576) (hk0 : 0 ≤ k) (hk1 : k ≤ 1073741824) :
    Calls Tryz.prog 31 #[.slice a n cap, .int .i64 k] w fun e w' => e = .returned (.int .i64 (k + n)) ∧ Own w' a g off n (fun i => k + i) ∧ Touch g w w' := by
  go_enter Tryz.func31, Tryz.ntmps31
  go_wp2
  go_loopw [1, 5] (fun t i wr => ∃ j : Nat, j ≤ n ∧ i = .int .i64 j ∧ t = .int .i64 (k + j) ∧ Own wr a g off n (fun i => if i < j then k + i else f i) ∧ Touch g w wr) (fun _ i _ => n - (intOf i).toNat)
  case atStart => exact ⟨0, Nat.zero_le _, rfl, by go_num, hs.congr (fun i _ => by simp), Touch.refl _ _⟩
  case round =>
    obtain ⟨j, hj, rfl, rfl, hO, hT⟩ := hrel
    by_cases hlt : j < n
    · obtain rfl := hs.at' (by omega)
      have hc := hO.cell j hlt
      have hf := hO.free j hlt
      have hjn : (j : Int) < (n : Int) := by omega
      have hO' := (hO.set hlt (k + j)).congr (f' := fun i => if i < j + 1 then k + i else f i) (fun i _ => by
        by_cases e : i = j
        · subst e; simp
        · by_cases h : i < j
          · simp [e, h, show i < j + 1 by omega]
          · simp [e, h, show ¬ i < j + 1 by omega])
      have hT' := hT.set (off + j) (.int .i64 (k + j))
      clear hO hT
      go_wp2
      go_roundw
      case rel => exact ⟨j + 1, by omega, by go_num, by go_num, hO', hT'⟩
      case measure => simp [intOf]; omega
    · obtain rfl : j = n := by omega
      go_wp2
      go_ret
      exact ⟨rfl, hO.congr (fun i hi => by simp [hi]), hT⟩
end

section
set_option linter.unusedVariables false
set_option linter.unusedSimpArgs false

open Go.RowKit

/-- Of what lay there only blocks from S up to T may have turned. -/
structure Mkw (S T : Nat) (w w' : World) : Prop where
  os : w'.os = w.os
  tape : w'.tape = w.tape
  output : w'.output = w.output
  size : w.heap.size ≤ w'.heap.size
  same : ∀ q, q < w.heap.size → (q < S ∨ T ≤ q) → w'.heap[q]? = w.heap[q]?

theorem Mkw.refl (S T : Nat) (w : World) : Mkw S T w w := ⟨rfl, rfl, rfl, Nat.le_refl _, fun _ _ _ => rfl⟩

theorem Mkw.trans {S T : Nat} {a b c : World} (h : Mkw S T a b) (k : Mkw S T b c) : Mkw S T a c :=
  ⟨k.os.trans h.os, k.tape.trans h.tape, k.output.trans h.output, Nat.le_trans h.size k.size, fun q h1 h2 => (k.same q (Nat.lt_of_lt_of_le h1 h.size) h2).trans (h.same q h1 h2)⟩

theorem Mkw.of_ext {S T : Nat} {a b : World} (h : Ext a b) : Mkw S T a b := ⟨h.os, h.tape, h.output, Below.size h, fun q h1 _ => Below.block h q h1⟩

theorem Mkw.of_touch {S T g : Nat} {a b : World} (h : Touch g a b) (h1 : S ≤ g) (h2 : g < T) : Mkw S T a b :=
  ⟨h.grown.os, h.grown.tape, h.grown.output, h.grown.size, fun q k1 k2 => h.grown.block q k1 (by simp; omega)⟩

theorem Mkw.below {S T B : Nat} {w0 a b : World} (h : Mkw S T a b) (k : Below B w0 a) (hB : B ≤ S) (hs : B ≤ a.heap.size) : Below B w0 b :=
  ⟨h.os.trans k.os, h.tape.trans k.tape, h.output.trans k.output, Nat.le_trans (Below.size k) h.size, fun q hq => (h.same q (by omega) (.inl (by omega))).trans (Below.block k q hq)⟩

/-- A list of strings that may be written. -/
structure SAny (w : World) (a : Option Addr) (g off n : Nat) : Prop where
  at' : 0 < n → a = some ⟨g, off, none⟩
  cell : ∀ i, i < n → ∃ s, w.cell? ⟨g, off + i, none⟩ = some (.string s)
  free : ∀ i, i < n → w.frozen? ⟨g, off + i, none⟩ = false

theorem SAny.lt {w : World} {a : Option Addr} {g off n : Nat} (h : SAny w a g off n) (hn : 0 < n) : g < w.heap.size := by
  obtain ⟨s, hs⟩ := h.cell 0 hn
  exact World.block_lt_of_cell? _ _ hs

theorem SAny.of_blk {w w' : World} {a : Option Addr} {g off n : Nat} (h : SAny w a g off n) (e : 0 < n → w'.heap[g]? = w.heap[g]?) : SAny w' a g off n :=
  ⟨h.at', fun i hi => by
    obtain ⟨s, hs⟩ := h.cell i hi
    exact ⟨s, (World.cell?_of_block (a := ⟨g, off + i, none⟩) (e (by omega))).trans hs⟩, fun i hi => (World.frozen?_of_block (a := ⟨g, off + i, none⟩) (e (by omega))).trans (h.free i hi)⟩

theorem SAny.of_all {w w' : World} {a : Option Addr} {g off n : Nat} (h : SAny w a g off n) (e : Ext w w') : SAny w' a g off n :=
  h.of_blk (fun h0 => Below.block e g (h.lt h0))

theorem SAny.set {w : World} {a : Option Addr} {g off n : Nat} (h : SAny w a g off n) {k : Nat} (hk : k < n) (x : ByteArray) : SAny (w.setCell ⟨g, off + k, none⟩ (.string x)) a g off n := by
  refine ⟨h.at', fun i hi => ?_, fun i hi => by rw [World.frozen?_setCell]; exact h.free i hi⟩
  obtain ⟨s, hs⟩ := h.cell i hi
  by_cases e : i = k
  · subst e
    exact ⟨x, World.cell?_setCell_same _ _ _ hs⟩
  · exact ⟨s, by rw [World.cell?_setCell_other _ _ _ _ (fun h => by have := congrArg Addr.off h; simp at this; omega), hs]⟩

theorem Mkw.set {S T g : Nat} {w wr : World} (h : Mkw S T w wr) (i : Nat) (v : Value) (h1 : S ≤ g) (h2 : g < T) : Mkw S T w (wr.setCell ⟨g, i, none⟩ v) :=
  h.trans ⟨rfl, rfl, rfl, by simp [World.setCell], fun q k1 k2 => Below.heap_setCell _ _ _ _ (by show q ≠ g; omega)⟩

theorem bseg_new1 (w : World) (x : Int) : BSeg (w.alloc (.cells #[.int .u8 x] 5)) (some ⟨w.heap.size, 0, none⟩) w.heap.size 0 1 (fun _ => x) :=
  ⟨fun _ => rfl, fun i hi => by
    obtain rfl : i = 0 := by omega
    exact (Blk.alloc w [.int .u8 x] 5 0 _ rfl).1⟩

theorem str1_size (x : Int) : (strOfNums (nums (fun _ => x) 1)).size = 1 := rfl

theorem conv1 (w : World) (x : Int) : ∃ s1 : ByteArray, s1.size = 1 ∧ (convert 24 9 (.slice (some ⟨w.heap.size, 0, none⟩) 1 1)).run Tryz.prog (w.alloc (.cells #[.int .u8 x] 5)) = .ok (.string s1) (w.alloc (.cells #[.int .u8 x] 5)) :=
  ⟨_, str1_size x, conv_seg (cap := 1) (bseg_new1 w x)⟩

theorem cat_size (a b : ByteArray) : (a ++ b).size = a.size + b.size := by simp

theorem w64_small {n : Nat} (h : n ≤ 1099511627776) : wrap64 (n : Int) = n ∧ IntKind.i64.wrap (n : Int) = n := by
  constructor
  · unfold wrap64; omega
  · rw [IntKind.wrap_i64]; omega

theorem mt_wraps {r : Nat} (h : r ≤ 10) : wrap64 (48 + (r : Int)) = 48 + r ∧ IntKind.i64.wrap (48 + (r : Int)) = 48 + r ∧ IntKind.u8.wrap (48 + (r : Int)) = 48 + r := by
  refine ⟨by unfold wrap64; omega, by rw [IntKind.wrap_i64]; omega, by rw [IntKind.wrap_u8]; omega⟩

theorem mt_nums {j : Nat} (h : 0 < j) (h1 : j ≤ 1099511627776) : ∃ q r : Nat, q < j ∧ Int.tdiv (j : Int) 10 = (q : Int) ∧ Int.tmod (j : Int) 10 = (r : Int) ∧ wrap64 (48 + (r : Int)) = 48 + r ∧ IntKind.i64.wrap (48 + (r : Int)) = 48 + r ∧ IntKind.u8.wrap (48 + (r : Int)) = 48 + r ∧ wrap64 (q : Int) = q ∧ IntKind.i64.wrap (q : Int) = q ∧ wrap64 (r : Int) = r ∧ IntKind.i64.wrap (r : Int) = r := by
  have a := w64_small (n := j / 10) (by omega)
  have b := w64_small (n := j % 10) (by omega)
  have c := mt_wraps (r := j % 10) (by omega)
  refine ⟨j / 10, j % 10, by omega, ?_, ?_, c.1, c.2.1, c.2.2, a.1, a.2, b.1, b.2⟩
  · clear a b c
    rw [Int.tdiv_eq_ediv_of_nonneg (by omega)]; omega
  · clear a b c
    rw [Int.tmod_eq_emod_of_nonneg (by omega)]; omega

set_option maxRecDepth 100000 in
set_option maxHeartbeats 1600000 in
theorem markText_any (k : Int) (k0 : 0 ≤ k) (k1 : k ≤ 1099511627776) (w : World) : Calls Tryz.prog 60 #[.int .i64 k] w fun e w' => (∃ s, e = .returned (.string s)) ∧ Ext w w' := by
  obtain ⟨n, rfl⟩ : ∃ n : Nat, k = (n : Int) := ⟨k.toNat, by omega⟩
  by_cases h0 : n = 0
  · subst h0
    go_enter Tryz.func60, Tryz.ntmps60
    go_wp2
    go_ret
    exact ⟨⟨_, rfl⟩, Ext.refl _⟩
  · have g0 : ¬ ((n : Int) ≤ 0) := by omega
    have H1 : Hid (n ≤ 1099511627776) := by show _ ≤ _; omega
    clear k0 k1 h0
    go_enter Tryz.func60, Tryz.ntmps60
    go_wp2
    clear g0
    go_loopw [0, 3] (fun t v wr => ∃ (j : Nat) (s : ByteArray), t = .int .i64 (j : Int) ∧ v = .string s ∧ s.size + j ≤ n ∧ Ext w wr) (fun t _ _ => (intOf t).toNat)
    case atStart => exact ⟨n, ⟨#[]⟩, rfl, rfl, by show 0 + n ≤ n; omega, Ext.refl _⟩
    case round =>
      obtain ⟨j, s, rfl, rfl, hj, hE⟩ := hrel
      have HJ := hide hj
      have HE := hide hE
      clear hj hE
      by_cases hp : 0 < j
      · have g1 : (0 : Int) < (j : Int) := by omega
        have HN := H1.out
        have HJ2 := HJ.out
        obtain ⟨q, r, hq, hes⟩ := mt_nums (j := j) (by omega) (by omega)
        have Hes := hide hes
        clear hes
        obtain ⟨s1, hsz, hcv⟩ := conv1 wr (48 + (r : Int))
        have Hsz := hide hsz
        clear hsz
        have hcat : ∀ W, (Op.stringOp .add s1 s).run Tryz.prog W = .ok (.string (s1 ++ s)) W := fun W => run_string_add_sum W s1 s (by have := Hsz.out; omega)
        have Hcs : Hid ((s1 ++ s).size + q ≤ n ∧ q < j) := by
          have h1 := cat_size s1 s
          have := Hsz.out
          exact ⟨by omega, hq⟩
        have HX : Hid (Ext wr (wr.alloc (.cells #[.int .u8 (48 + (r : Int))] 5))) := hide (Ext.alloc _ _)
        generalize s1 ++ s = s2 at *
        clear hq HN HJ2 hp
        obtain ⟨e1, e2, e3, e4, e5, e6, e7, e8, e9⟩ := Hes.out
        clear Hes
        go_wp2
        go_roundw
        case rel => exact ⟨q, s2, rfl, rfl, Hcs.out.1, HE.out.trans HX.out⟩
        case measure => clear e1 e2 e3 e4 e5 e6 e7 e8 e9; have := Hcs.out.2; simp [intOf]; omega
      · obtain rfl : j = 0 := by omega
        have HN := H1.out
        have HJ2 := HJ.out
        have hcat : ∀ W, (Op.stringOp .add (⟨#[109]⟩ : ByteArray) s).run Tryz.prog W = .ok (.string ((⟨#[109]⟩ : ByteArray) ++ s)) W := fun W => run_string_add_sum W _ s (by show 1 + s.size ≤ 9223372036854775807; omega)
        generalize (⟨#[109]⟩ : ByteArray) ++ s = s2 at *
        clear HN HJ2 hp
        go_wp2
        go_ret
        exact ⟨⟨_, rfl⟩, HE.out⟩

set_option maxHeartbeats 1600000 in
theorem markStringS_any (a : Option Addr) (g off n cap : Nat) (k : Int) (S T : Nat) (w : World) (hs : SAny w a g off n) (h1 : S ≤ g) (h2 : g < T) (hn : n ≤ 1048576) (hk0 : 0 ≤ k) (hk1 : k ≤ 1073741824) :
    Calls Tryz.prog 30 #[.slice a n cap, .int .i64 k] w fun e w' => e = .returned (.int .i64 (k + n)) ∧ Mkw S T w w' := by
  have HM : Hid (∀ (j : Nat) (W : World), j ≤ n → Calls Tryz.prog 60 #[.int .i64 (k + j)] W fun e w' => (∃ s, e = .returned (.string s)) ∧ Ext W w') := fun j W hj => markText_any (k + j) (by omega) (by omega) W
  have Hat := hide hs.at'
  have H1 := hide h1
  have H2 := hide h2
  have HS := hide hs
  clear hs h1 h2
  go_enter Tryz.func30, Tryz.ntmps30
  go_wp2
  go_loopw [1, 5] (fun t i wr => ∃ j : Nat, j ≤ n ∧ i = .int .i64 j ∧ t = .int .i64 (k + j) ∧ SAny wr a g off n ∧ Mkw S T w wr) (fun _ i _ => n - (intOf i).toNat)
  case atStart => exact ⟨0, Nat.zero_le _, rfl, by go_num, HS.out, Mkw.refl _ _ _⟩
  case round =>
    clear HS
    obtain ⟨j, hj, rfl, rfl, hO, hT⟩ := hrel
    have HO := hide hO
    have HT := hide hT
    clear hO hT
    by_cases hlt : j < n
    · obtain rfl := Hat.out (by omega)
      have hjn : (j : Int) < (n : Int) := by omega
      have HMj := hide (HM.out j wr hj)
      go_wp2_with fail
      refine HMj.out.mono ?_
      rintro e w1 ⟨⟨s, rfl⟩, hE⟩
      have hO1 := HO.out.of_all hE
      obtain ⟨s0, hc⟩ := hO1.cell j hlt
      have hf := hO1.free j hlt
      have HO' := hide (hO1.set hlt s)
      have HT' := hide ((HT.out.trans (Mkw.of_ext hE)).set (off + j) (.string s) H1.out H2.out)
      clear hO1 hE HMj HO HT
      go_wp2
      go_roundw
      case rel => exact ⟨j + 1, by omega, by go_num, by go_num, HO'.out, HT'.out⟩
      case measure => simp [intOf]; omega
    · obtain rfl : j = n := by omega
      go_wp2
      go_ret
      exact ⟨rfl, HT.out⟩
end

section
set_option linter.unusedVariables false
set_option linter.unusedSimpArgs false
set_option maxRecDepth 100000

open Go.RowKit

theorem Own.of_blk {w w' : World} {a : Option Addr} {g off n : Nat} {f : Nat → Int} (h : Own w a g off n f) (e : 0 < n → w'.heap[g]? = w.heap[g]?) : Own w' a g off n f :=
  ⟨⟨h.at', fun i hi => (World.cell?_of_block (a := ⟨g, off + i, none⟩) (e (by omega))).trans (h.cell i hi)⟩, fun i hi => (World.frozen?_of_block (a := ⟨g, off + i, none⟩) (e (by omega))).trans (h.free i hi)⟩

theorem BOwn.of_blk {w w' : World} {a : Option Addr} {g off n : Nat} {f : Nat → Int} (h : BOwn w a g off n f) (e : 0 < n → w'.heap[g]? = w.heap[g]?) : BOwn w' a g off n f :=
  ⟨⟨h.at', fun i hi => (World.cell?_of_block (a := ⟨g, off + i, none⟩) (e (by omega))).trans (h.cell i hi)⟩, fun i hi => (World.frozen?_of_block (a := ⟨g, off + i, none⟩) (e (by omega))).trans (h.free i hi)⟩

theorem toStrs_kpO (p : Plc) (n : Nat) (f : Nat → ByteArray) (W : World) (hs : SSeg W p.ad p.b p.off n f) (hn : n ≤ 1048576) :
    Calls Tryz.prog 22 #[.slice p.ad n p.cap] W fun e w' => ∃ q : Plc, e = .returned (.slice q.ad n q.cap) ∧ (∀ w'', Kp W.heap.size w' w'' → (SSeg w'' q.ad q.b q.off n f ∧ SAny w'' q.ad q.b q.off n) ∧ W.heap.size ≤ q.b ∧ q.b < w'.heap.size) ∧ Ext W w' :=
  (toStringS_any p.ad p.b p.off n p.cap f W hs hn).mono fun e w' ⟨h1, h2⟩ => ⟨⟨some ⟨W.heap.size, 0, none⟩, W.heap.size, 0, n⟩, h1, fun w'' k => by
    have hl : W.heap.size < w'.heap.size := by have := h2.size; omega
    have hb := k.2 W.heap.size (Nat.le_refl _) hl
    have hc : ∀ i, i < n → w'.cell? ⟨W.heap.size, 0 + i, none⟩ = some (.string (f i)) := h2.seg.cell
    refine ⟨⟨⟨fun _ => rfl, fun i hi => (World.cell?_of_block (a := ⟨W.heap.size, 0 + i, none⟩) hb).trans (hc i hi)⟩, ⟨fun _ => rfl, fun i hi => ⟨f i, (World.cell?_of_block (a := ⟨W.heap.size, 0 + i, none⟩) hb).trans (hc i hi)⟩, fun i hi => (World.frozen?_of_block (a := ⟨W.heap.size, 0 + i, none⟩) hb).trans (h2.row.frozen _)⟩⟩, Nat.le_refl _, hl⟩, h2.below⟩

theorem toInts_kpO (p : Plc) (n : Nat) (f : Nat → Int) (W : World) (hs : Seg W p.ad p.b p.off n f) (hn : n ≤ 1048576) :
    Calls Tryz.prog 23 #[.slice p.ad n p.cap] W fun e w' => ∃ q : Plc, e = .returned (.slice q.ad n q.cap) ∧ (∀ w'', Kp W.heap.size w' w'' → (Seg w'' q.ad q.b q.off n f ∧ Own w'' q.ad q.b q.off n f) ∧ W.heap.size ≤ q.b ∧ q.b < w'.heap.size) ∧ Ext W w' :=
  (toIntS_any p.ad p.b p.off n p.cap f W hs hn).mono fun e w' ⟨h1, h2, h3, h4⟩ => ⟨⟨some ⟨W.heap.size, 0, none⟩, W.heap.size, 0, n⟩, h1, fun w'' k => by
    have hl : W.heap.size < w'.heap.size := by omega
    have hb := k.2 W.heap.size (Nat.le_refl _) hl
    have ho : Own w'' (some ⟨W.heap.size, 0, none⟩) W.heap.size 0 n f := ⟨⟨fun _ => rfl, fun i hi => (World.cell?_of_block (a := ⟨W.heap.size, 0 + i, none⟩) hb).trans (by rw [Nat.zero_add]; exact h3.cell hi)⟩, fun i hi => (World.frozen?_of_block (a := ⟨W.heap.size, 0 + i, none⟩) hb).trans (h3.frozen _)⟩
    exact ⟨⟨ho.toSeg, ho⟩, Nat.le_refl _, hl⟩, h4⟩

theorem toBytes_kpO (p : Plc) (n : Nat) (f : Nat → Int) (W : World) (hs : BSeg W p.ad p.b p.off n f) (hn : n ≤ 1048576) :
    Calls Tryz.prog 24 #[.slice p.ad n p.cap] W fun e w' => ∃ q : Plc, e = .returned (.slice q.ad n q.cap) ∧ (∀ w'', Kp W.heap.size w' w'' → (BSeg w'' q.ad q.b q.off n f ∧ BOwn w'' q.ad q.b q.off n f) ∧ W.heap.size ≤ q.b ∧ q.b < w'.heap.size) ∧ Ext W w' :=
  (toByteS_any p.ad p.b p.off n p.cap f W hs hn).mono fun e w' ⟨h1, h2, h3, h4⟩ => ⟨⟨some ⟨W.heap.size, 0, none⟩, W.heap.size, 0, n⟩, h1, fun w'' k => by
    have hl : W.heap.size < w'.heap.size := by omega
    have hb := k.2 W.heap.size (Nat.le_refl _) hl
    have ho : BOwn w'' (some ⟨W.heap.size, 0, none⟩) W.heap.size 0 n f := ⟨⟨fun _ => rfl, fun i hi => (World.cell?_of_block (a := ⟨W.heap.size, 0 + i, none⟩) hb).trans (by rw [Nat.zero_add]; exact h3.cell hi)⟩, fun i hi => (World.frozen?_of_block (a := ⟨W.heap.size, 0 + i, none⟩) hb).trans (h3.frozen _)⟩
    exact ⟨⟨ho.toBSeg, ho⟩, Nat.le_refl _, hl⟩, h4⟩
end

section
set_option linter.unusedVariables false
set_option linter.unusedSimpArgs false
set_option maxRecDepth 100000

open Go.RowKit

/-- A list of what is void whose lists are one's own, in blocks from S up to T. -/
structure ClOw (S T : Nat) (w : World) (c : Cl) (m : ClPl) : Prop where
  in' : ClIn w c m
  i : SAny w m.i.ad m.i.b m.i.off c.ni
  v : Own w m.v.ad m.v.b m.v.off c.nv c.fv
  g : BOwn w m.g.ad m.g.b m.g.off c.ng c.fg
  b0 : S ≤ m.i.b
  b1 : m.i.b < m.v.b
  b2 : m.v.b < m.g.b
  b3 : m.g.b < T

theorem ClOw.ext {S T : Nat} {w w' : World} {c : Cl} {m : ClPl} (h : ClOw S T w c m) (e : Ext w w') : ClOw S T w' c m := ⟨h.in'.ext e, h.i.of_all e, h.v.of_all e, h.g.of_all e, h.b0, h.b1, h.b2, h.b3⟩

set_option maxHeartbeats 12800000 in
set_option maxRecDepth 100000 in
theorem toCrlO_any (c : Cl) (m : ClPl) (w : World) (hI : ClIn w c m) (hS : ClSm c 1048576) :
    Calls Tryz.prog 7 #[.agg (clL c m).toArray] w fun e w' => ∃ p : ClPl, e = .returned (.agg (clL c p).toArray) ∧ ClOw w.heap.size w'.heap.size w' c p ∧ Ext w w' := by
  obtain ⟨V, hV⟩ : ∃ V, ((w.alloc (.cells (clL c m).toArray 26)).alloc (.cells #[.slice none 0 0, .int .i64 0, .int .i64 0, .int .i64 0, .slice none 0 0, .slice none 0 0] 30)).alloc (.cells #[.slice none 0 0, .int .i64 0, .int .i64 0, .int .i64 0, .slice none 0 0, .slice none 0 0] 30) = V := ⟨_, rfl⟩
  have HM := hide (mkg_start w (clL c m) [.slice none 0 0, .int .i64 0, .int .i64 0, .int .i64 0, .slice none 0 0, .slice none 0 0] [.slice none 0 0, .int .i64 0, .int .i64 0, .int .i64 0, .slice none 0 0, .slice none 0 0] 26 30 30 hV)
  have HN : Hid (w.heap.size + 1 + 1 < V.heap.size) := hide HM.out.lt
  have HI := hide hI
  have HS := hide hS
  clear hI hS
  have HF : Hid (∀ w'', Kp V.heap.size V w'' → True) := hide (fun _ _ => trivial)
  have HG : Hid (V.heap.size ≤ V.heap.size) := hide (Nat.le_refl _)
  have a0 := (HM.out.a 0 _ rfl).1
  have HM1 := hide HM.out
  have HF1 := hide HF.out
  go_enter Tryz.func7, Tryz.ntmps7
  go_wp2_with fail
  refine (toStrs_kpO m.i c.ni c.fi _ (HI.out.i.of_all HM1.out.ext) HS.out.i).mono ?_
  rintro e w1 ⟨pi, rfl, hS0, hEW⟩
  clear a0
  replace HM : Hid (Mkg w w1 (clL c m) [.slice none 0 0, .int .i64 0, .int .i64 0, .int .i64 0, .slice none 0 0, .slice none 0 0] [.slice none 0 0, .int .i64 0, .int .i64 0, .int .i64 0, .slice none 0 0, .slice none 0 0]) := hide (Mkg.later HM1.out hEW)
  replace HF := hide (later_and (later_ext HF1.out hEW) HG.out hS0)
  replace HG : Hid (V.heap.size ≤ w1.heap.size) := hide (Nat.le_trans HG.out (Below.size hEW))
  clear hS0 hEW HM1 HF1
  have a1 := (HM.out.a 1 _ rfl).1
  have a2 := (HM.out.a 2 _ rfl).1
  have a3 := (HM.out.a 3 _ rfl).1
  have a4 := (HM.out.a 4 _ rfl).1
  have o0 := (HM.out.o 0 _ rfl).1
  have f0 := (HM.out.o 0 _ rfl).2
  have o1 := (HM.out.o 1 _ rfl).1
  have f1 := (HM.out.o 1 _ rfl).2
  have o2 := (HM.out.o 2 _ rfl).1
  have f2 := (HM.out.o 2 _ rfl).2
  have o3 := (HM.out.o 3 _ rfl).1
  have f3 := (HM.out.o 3 _ rfl).2
  have HM1 := hide (Mkg.set (Mkg.set (Mkg.set (Mkg.set HM.out 0 (.slice pi.ad c.ni pi.cap) (by simp [clL])) 1 (.int .i64 c.fr) (by simp [clL])) 2 (.int .i64 c.to) (by simp [clL])) 3 (.int .i64 c.alg) (by simp [clL]))
  have HF1 := hide (later_set (later_set (later_set (later_set HF.out HN.out 0 (.slice pi.ad c.ni pi.cap)) HN.out 1 (.int .i64 c.fr)) HN.out 2 (.int .i64 c.to)) HN.out 3 (.int .i64 c.alg))
  have HL1 : Hid (w1.heap.size ≤ ((((w1.setCell ⟨w.heap.size + 1 + 1, 0, none⟩ (.slice pi.ad c.ni pi.cap)).setCell ⟨w.heap.size + 1 + 1, 1, none⟩ (.int .i64 c.fr)).setCell ⟨w.heap.size + 1 + 1, 2, none⟩ (.int .i64 c.to)).setCell ⟨w.heap.size + 1 + 1, 3, none⟩ (.int .i64 c.alg)).heap.size ∧ 0 < w1.heap.size + 1) := hide ⟨Nat.le_of_eq (by first | rfl | simp [World.setCell, size_putL]), Nat.succ_pos _⟩
  go_wp2_with fail
  refine (toInts_kpO m.v c.nv c.fv _ (HI.out.v.of_all HM1.out.ext) HS.out.v).mono ?_
  rintro e w2 ⟨pv, rfl, hS1, hEW⟩
  clear a1 a2 a3 a4 o0 f0 o1 f1 o2 f2 o3 f3
  replace HM : Hid (Mkg w w2 (clL c m) [.slice none 0 0, .int .i64 0, .int .i64 0, .int .i64 0, .slice none 0 0, .slice none 0 0] [.slice pi.ad c.ni pi.cap, .int .i64 c.fr, .int .i64 c.to, .int .i64 c.alg, .slice none 0 0, .slice none 0 0]) := hide (Mkg.later HM1.out hEW)
  replace HF := hide (later_and (later_ext HF1.out hEW) (Nat.le_trans HG.out HL1.out.1) hS1)
  replace HG : Hid (V.heap.size ≤ w2.heap.size) := hide (Nat.le_trans HG.out (Nat.le_trans HL1.out.1 (Below.size hEW)))
  clear hS1 hEW HM1 HF1 HL1
  have a5 := (HM.out.a 5 _ rfl).1
  have o4 := (HM.out.o 4 _ rfl).1
  have f4 := (HM.out.o 4 _ rfl).2
  have HM1 := hide (Mkg.set HM.out 4 (.slice pv.ad c.nv pv.cap) (by simp [clL]))
  have HF1 := hide (later_set HF.out HN.out 4 (.slice pv.ad c.nv pv.cap))
  have HL1 : Hid (w2.heap.size ≤ (w2.setCell ⟨w.heap.size + 1 + 1, 4, none⟩ (.slice pv.ad c.nv pv.cap)).heap.size ∧ 0 < w2.heap.size + 1) := hide ⟨Nat.le_of_eq (by first | rfl | simp [World.setCell, size_putL]), Nat.succ_pos _⟩
  go_wp2_with fail
  refine (toBytes_kpO m.g c.ng c.fg _ (HI.out.g.of_all HM1.out.ext) HS.out.g).mono ?_
  rintro e w3 ⟨pg, rfl, hS2, hEW⟩
  clear a5 o4 f4
  replace HM : Hid (Mkg w w3 (clL c m) [.slice none 0 0, .int .i64 0, .int .i64 0, .int .i64 0, .slice none 0 0, .slice none 0 0] [.slice pi.ad c.ni pi.cap, .int .i64 c.fr, .int .i64 c.to, .int .i64 c.alg, .slice pv.ad c.nv pv.cap, .slice none 0 0]) := hide (Mkg.later HM1.out hEW)
  replace HF := hide (later_and (later_ext HF1.out hEW) (Nat.le_trans HG.out HL1.out.1) hS2)
  replace HG : Hid (V.heap.size ≤ w3.heap.size) := hide (Nat.le_trans HG.out (Nat.le_trans HL1.out.1 (Below.size hEW)))
  clear hS2 hEW HM1 HF1 HL1
  have o5 := (HM.out.o 5 _ rfl).1
  have f5 := (HM.out.o 5 _ rfl).2
  have HM1 := hide (Mkg.set HM.out 5 (.slice pg.ad c.ng pg.cap) (by simp [clL]))
  have HF1 := hide (later_set HF.out HN.out 5 (.slice pg.ad c.ng pg.cap))
  obtain ⟨V2, hV2⟩ : ∃ V2, (w3.setCell ⟨w.heap.size + 1 + 1, 5, none⟩ (.slice pg.ad c.ng pg.cap)) = V2 := ⟨_, rfl⟩
  have hM1 : Mkg w V2 (clL c m) [.slice none 0 0, .int .i64 0, .int .i64 0, .int .i64 0, .slice none 0 0, .slice none 0 0] (clL c ⟨pi, pv, pg⟩) := hV2 ▸ HM1.out
  have hF1 := HF1.out
  rw [hV2] at hF1
  have hldE := run_ld (P := Tryz.prog) 30 (clL c ⟨pi, pv, pg⟩) V2 (by kernel_rfl) (by kernel_rfl) (w.heap.size + 1 + 1) 0 (Blk.ld hM1.o 0 _ (fun j v h => by rw [Nat.zero_add]; exact h))
  have hstE := run_st (P := Tryz.prog) 30 (clL c ⟨pi, pv, pg⟩) V2 (by kernel_rfl) (by simp [clL, Value.oneCell']) (w.heap.size + 1) 0 (Blk.st hM1.d 0 _ (by simp [clL]))
  have HB3 := hide (Blk.putAll1 hM1.d (vs := clL c ⟨pi, pv, pg⟩) rfl)
  have HX3 := hide (below_putL (Nat.le_succ _) (clL c ⟨pi, pv, pg⟩) 0 _ hM1.ext)
  have HF3 := hide (later_put hF1 (Nat.lt_of_succ_lt HN.out) 0 (clL c ⟨pi, pv, pg⟩))
  clear hM1 hF1 HM1 HF1 HM HF
  go_wp2_with (first | (refine wpList_ld (by first | rfl | simp [Region.wanted, yielded]) 30 _ rfl _ rfl _ hldE ?_) | (refine wpList_st (by first | rfl | simp [Region.wanted, yielded]) 30 _ _ rfl _ rfl _ rfl _ hstE ?_))
  refine bodyPost_ret (v := .agg (clL c ⟨pi, pv, pg⟩).toArray) (results_at Tryz.results7 rfl (run_ld (P := Tryz.prog) 30 (clL c ⟨pi, pv, pg⟩) _ (by kernel_rfl) (by kernel_rfl) (w.heap.size + 1) 0 (Blk.ld HB3.out 0 _ (fun j v h => by rw [Nat.zero_add]; exact h)))) rfl ?_
  have hf := HF3.out _ (Kp.refl _ _)
  have n1 := HN.out
  have n2 : ∀ (W : World) (a : Addr) (v : Value), (W.setCell a v).heap.size = W.heap.size := fun W a v => by simp [World.setCell]
  obtain ⟨⟨⟨-, ⟨s1, y1⟩, l1, u1⟩, ⟨s2, y2⟩, l2, u2⟩, ⟨s3, y3⟩, l3, u3⟩ := hf
  rw [← hV2] at *
  simp only [n2, size_putL] at *
  exact ⟨⟨pi, pv, pg⟩, rfl, ⟨⟨s1, s2, s3⟩, y1, y2, y3, Nat.le_trans (by omega) l1, Nat.lt_of_lt_of_le u1 l2, Nat.lt_of_lt_of_le u2 l3, u3⟩, HX3.out⟩

set_option maxHeartbeats 3200000 in
theorem markCrl_any (c : Cl) (m : ClPl) (S T : Nat) (w : World) (h : ClOw S T w c m) (hT : T ≤ w.heap.size) (hS : ClSm c 1048576) :
    Calls Tryz.prog 11 #[.agg (clL c m).toArray, .int .i64 1] w fun e w' => (∃ z : Int, e = .returned (.int .i64 z) ∧ 0 ≤ z) ∧ Mkw S T w w' := by
  obtain ⟨V, hV⟩ : ∃ V, w.alloc (.cells (clL c m).toArray 30) = V := ⟨_, rfl⟩
  obtain ⟨B0, hE, -⟩ := box1 w (clL c m) 30 (w1 := V) (by rw [← hV]; exact Ext.refl _)
  have hlt := Blk.lt B0 (by simp [clL])
  have hsz := Below.size hE
  have HH := hide h
  have HM1 := hide (markStringS_any m.i.ad m.i.b m.i.off c.ni m.i.cap 1 m.i.b (m.i.b + 1) V (h.i.of_all hE) (Nat.le_refl _) (Nat.lt_succ_self _) hS.i (by omega) (by omega))
  have HM2 : Hid (∀ W, Mkw m.i.b (m.i.b + 1) V W → Calls Tryz.prog 31 #[.slice m.v.ad c.nv m.v.cap, .int .i64 (1 + (c.ni : Int))] W fun e w' => e = .returned (.int .i64 (1 + (c.ni : Int) + c.nv)) ∧ Touch m.v.b W w') := fun W hW => (markIntS_any m.v.ad m.v.b m.v.off c.nv m.v.cap c.fv (1 + (c.ni : Int)) W (Own.of_blk (h.v.of_all hE) (fun h0 => hW.same _ (by have := (h.v.of_all hE).lt h0; omega) (.inr (by have := h.b1; omega)))) hS.v (by omega) (by have := hS.i; omega)).mono fun e w' ⟨h1, _, h3⟩ => ⟨h1, h3⟩
  have HM3 : Hid (∀ W W2, Mkw m.i.b (m.i.b + 1) V W → Touch m.v.b W W2 → Calls Tryz.prog 12 #[.slice m.g.ad c.ng m.g.cap, .int .i64 (1 + (c.ni : Int) + c.nv)] W2 fun e w' => e = .returned (.int .i64 (1 + (c.ni : Int) + c.nv + c.ng)) ∧ Touch m.g.b W2 w') := fun W W2 hW hW2 => (markByteS_any m.g.ad m.g.b m.g.off c.ng m.g.cap c.fg (1 + (c.ni : Int) + c.nv) W2 (BOwn.of_blk (h.g.of_all hE) (fun h0 => ((hW2.grown.block _ (Nat.lt_of_lt_of_le ((h.g.of_all hE).lt h0) hW.size) (by have := h.b2; simp; omega)).trans (hW.same _ ((h.g.of_all hE).lt h0) (.inr (by have := h.b1; have := h.b2; omega)))))) hS.g (by omega) (by have := hS.i; have := hS.v; omega)).mono fun e w' ⟨h1, _, h3⟩ => ⟨h1, h3⟩
  have HW1 : Hid (∀ W, Mkw m.i.b (m.i.b + 1) V W → Mkw S T w W) := fun W hW => (Mkw.of_ext hE).trans ⟨hW.os, hW.tape, hW.output, hW.size, fun q k1 k2 => hW.same q k1 (by have := h.b0; have := h.b1; have := h.b2; have := h.b3; omega)⟩
  have HBk := hide B0
  have HlV := hide hlt
  have HwB : Hid (m.i.b + 1 ≤ w.heap.size ∧ m.v.b < w.heap.size ∧ m.g.b < w.heap.size) := hide (by have := h.b1; have := h.b2; have := h.b3; omega)
  have HT1 : Hid (S ≤ m.v.b ∧ m.v.b < T ∧ S ≤ m.g.b ∧ m.g.b < T) := hide (by have := h.b0; have := h.b1; have := h.b2; have := h.b3; omega)
  have W1 : Hid (0 ≤ 1 + (c.ni : Int) + c.nv + c.ng) := hide (by omega)
  clear h hS hE B0 hlt hsz hT
  have c0 := (HBk.out 0 _ rfl).1
  go_enter Tryz.func11, Tryz.ntmps11
  go_wp2_with fail
  refine HM1.out.mono ?_
  rintro e w1 ⟨rfl, hm1⟩
  have Hm1 := hide hm1
  replace HBk := hide (HBk.out.of_heap (hm1.same _ HlV.out (.inr HwB.out.1)))
  clear hm1 c0 HM1
  have c4 := (HBk.out 4 _ rfl).1
  go_wp2_with fail
  refine (HM2.out _ Hm1.out).mono ?_
  rintro e w2 ⟨rfl, ht2⟩
  have Ht2 := hide ht2
  replace HBk := hide (HBk.out.of_heap (ht2.grown.block _ (Nat.lt_of_lt_of_le HlV.out Hm1.out.size) (by have := HwB.out.2.1; simp; omega)))
  clear ht2 c4 HM2
  have c5 := (HBk.out 5 _ rfl).1
  go_wp2_with fail
  refine (HM3.out _ _ Hm1.out Ht2.out).mono ?_
  rintro e w3 ⟨rfl, ht3⟩
  have Ht3 := hide ht3
  clear ht3 c5 HM3
  go_wp2
  go_ret
  exact ⟨⟨_, rfl, W1.out⟩, (HW1.out _ Hm1.out).trans ((Mkw.of_touch Ht2.out HT1.out.1 HT1.out.2.1).trans (Mkw.of_touch Ht3.out HT1.out.2.2.1 HT1.out.2.2.2))⟩
end

end Go.Proofs.YtgdjaapjdmancaaGreatDoor
