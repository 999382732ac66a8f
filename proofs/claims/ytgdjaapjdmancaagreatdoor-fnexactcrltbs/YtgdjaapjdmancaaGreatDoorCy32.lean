/- Walks: marks in lists of strings; what marks may have turned. -/
import Derived.Test.YtgdjaapjdmancaaGreatDoorCy02
import Derived.Test.YtgdjaapjdmancaaGreatDoorCy05
import Derived.Test.YtgdjaapjdmancaaGreatDoorCy08
import Derived.Test.YtgdjaapjdmancaaGreatDoorCy31
namespace Go.Proofs.YtgdjaapjdmancaaGreatDoor

section
set_option linter.unusedVariables false
set_option linter.unusedSimpArgs false

open Go.RowKit

/-- Of what lay there only blocks from S up to T may have turned. -/
structure Mkw (S T : Nat) (w w' : World) : Prop where
  os : w'.os = w.os
  tape : w'.tape = w.tape
  output : w'.output = w.output
  size : w.heap.size ≤ w'.heap.size
  same : ∀ q, q < w.heap.size → (q < S ∨ T ≤ q) → w'.heap[q]? = w.heap[q]?

theorem Mkw.refl (S T : Nat) (w : World) : Mkw S T w w := ⟨rfl, rfl, rfl, Nat.le_refl _, fun _ _ _ => rfl⟩

theorem Mkw.trans {S T : Nat} {a b c : World} (h : Mkw S T a b) (k : Mkw S T b c) : Mkw S T a c :=
  ⟨k.os.trans h.os, k.tape.trans h.tape, k.output.trans h.output, Nat.le_trans h.size k.size, fun q h1 h2 => (k.same q (Nat.lt_of_lt_of_le h1 h.size) h2).trans (h.same q h1 h2)⟩

theorem Mkw.of_ext {S T : Nat} {a b : World} (h : Ext a b) : Mkw S T a b := ⟨h.os, h.tape, h.output, Below.size h, fun q h1 _ => Below.block h q h1⟩

theorem Mkw.of_touch {S T g : Nat} {a b : World} (h : Touch g a b) (h1 : S ≤ g) (h2 : g < T) : Mkw S T a b :=
  ⟨h.grown.os, h.grown.tape, h.grown.output, h.grown.size, fun q k1 k2 => h.grown.block q k1 (by simp; omega)⟩

theorem Mkw.below {S T B : Nat} {w0 a b : World} (h : Mkw S T a b) (k : Below B w0 a) (hB : B ≤ S) (hs : B ≤ a.heap.size) : Below B w0 b :=
  ⟨h.os.trans k.os, h.tape.trans k.tape, h.output.trans k.output, Nat.le_trans (Below.size k) h.size, fun q hq => (h.same q (by omega) (.inl (by omega))).trans (Below.block k q hq)⟩

/-- A list of strings that may be written. -/
structure SAny (w : World) (a : Option Addr) (g off n : Nat) : Prop where
  at' : 0 < n → a = some ⟨g, off, none⟩
  cell : ∀ i, i < n → ∃ s, w.cell? ⟨g, off + i, none⟩ = some (.string s)
  free : ∀ i, i < n → w.frozen? ⟨g, off + i, none⟩ = false

theorem SAny.lt {w : World} {a : Option Addr} {g off n : Nat} (h : SAny w a g off n) (hn : 0 < n) : g < w.heap.size := by
  obtain ⟨s, hs⟩ := h.cell 0 hn
  exact World.block_lt_of_cell? _ _ hs

theorem SAny.of_blk {w w' : World} {a : Option Addr} {g off n : Nat} (h : SAny w a g off n) (e : 0 < n → w'.heap[g]? = w.heap[g]?) : SAny w' a g off n :=
  ⟨h.at', fun i hi => by
    obtain ⟨s, hs⟩ := h.cell i hi
    exact ⟨s, (World.cell?_of_block (a := ⟨g, off + i, none⟩) (e (by omega))).trans hs⟩, fun i hi => (World.frozen?_of_block (a := ⟨g, off + i, none⟩) (e (by omega))).trans (h.free i hi)⟩

theorem SAny.of_all {w w' : World} {a : Option Addr} {g off n : Nat} (h : SAny w a g off n) (e : Ext w w') : SAny w' a g off n :=
  h.of_blk (fun h0 => Below.block e g (h.lt h0))

theorem SAny.set {w : World} {a : Option Addr} {g off n : Nat} (h : SAny w a g off n) {k : Nat} (hk : k < n) (x : ByteArray) : SAny (w.setCell ⟨g, off + k, none⟩ (.string x)) a g off n := by
  refine ⟨h.at', fun i hi => ?_, fun i hi => by rw [World.frozen?_setCell]; exact h.free i hi⟩
  obtain ⟨s, hs⟩ := h.cell i hi
  by_cases e : i = k
  · subst e
    exact ⟨x, World.cell?_setCell_same _ _ _ hs⟩
  · exact ⟨s, by rw [World.cell?_setCell_other _ _ _ _ (fun h => by have := congrArg Addr.off h; simp at this; omega), hs]⟩

theorem Mkw.set {S T g : Nat} {w wr : World} (h : Mkw S T w wr) (i : Nat) (v : Value) (h1 : S ≤ g) (h2 : g < T) : Mkw S T w (wr.setCell ⟨g, i, none⟩ v) :=
  h.trans ⟨rfl, rfl, rfl, by simp [World.setCell], fun q k1 k2 => Below.heap_setCell _ _ _ _ (by show q ≠ g; omega)⟩

theorem bseg_new1 (w : World) (x : Int) : BSeg (w.alloc (.cells #[.int .u8 x] 5)) (some ⟨w.heap.size, 0, none⟩) w.heap.size 0 1 (fun _ => x) :=
  ⟨fun _ => rfl, fun i hi => by
    obtain rfl : i = 0 := by omega
    exact (Blk.alloc w [.int .u8 x] 5 0 _ rfl).1⟩

theorem str1_size (x : Int) : (strOfNums (nums (fun _ => x) 1)).size = 1 := rfl

theorem conv1 (w : World) (x : Int) : ∃ s1 : ByteArray, s1.size = 1 ∧ (convert 24 9 (.slice (some ⟨w.heap.size, 0, none⟩) 1 1)).run Tryz.prog (w.alloc (.cells #[.int .u8 x] 5)) = .ok (.string s1) (w.alloc (.cells #[.int .u8 x] 5)) :=
  ⟨_, str1_size x, conv_seg (cap := 1) (bseg_new1 w x)⟩

theorem cat_size (a b : ByteArray) : (a ++ b).size = a.size + b.size := by simp

theorem w64_small {n : Nat} (h : n ≤ 1099511627776) : wrap64 (n : Int) = n ∧ IntKind.i64.wrap (n : Int) = n := by
  constructor
  · unfold wrap64; omega
  · rw [IntKind.wrap_i64]; omega

theorem mt_wraps {r : Nat} (h : r ≤ 10) : wrap64 (48 + (r : Int)) = 48 + r ∧ IntKind.i64.wrap (48 + (r : Int)) = 48 + r ∧ IntKind.u8.wrap (48 + (r : Int)) = 48 + r := by
  refine ⟨by unfold wrap64; omega, by rw [IntKind.wrap_i64]; omega, by rw [IntKind.wrap_u8]; omega⟩

theorem mt_nums {j : Nat} (h : 0 < j) (h1 : j ≤ 1099511627776) : ∃ q r : Nat, q < j ∧ Int.tdiv (j : Int) 10 = (q : Int) ∧ Int.tmod (j : Int) 10 = (r : Int) ∧ wrap64 (48 + (r : Int)) = 48 + r ∧ IntKind.i64.wrap (48 + (r : Int)) = 48 + r ∧ IntKind.u8.wrap (48 + (r : Int)) = 48 + r ∧ wrap64 (q : Int) = q ∧ IntKind.i64.wrap (q : Int) = q ∧ wrap64 (r : Int) = r ∧ IntKind.i64.wrap (r : Int) = r := by
  have a := w64_small (n := j / 10) (by omega)
  have b := w64_small (n := j % 10) (by omega)
  have c := mt_wraps (r := j % 10) (by omega)
  refine ⟨j / 10, j % 10, by omega, ?_, ?_, c.1, c.2.1, c.2.2, a.1, a.2, b.1, b.2⟩
  · clear a b c
    rw [Int.tdiv_eq_ediv_of_nonneg (by omega)]; omega
  · clear a b c
    rw [Int.tmod_eq_emod_of_nonneg (by omega)]; omega

set_option maxRecDepth 100000 in
set_option maxHeartbeats 1600000 in
theorem markText_any (k : Int) (k0 : 0 ≤ k) (k1 : k ≤ 1099511627776) (w : World) : Calls Tryz.prog 60 #[.int .i64 k] w fun e w' => (∃ s, e = .returned (.string s)) ∧ Ext w w' := by
  obtain ⟨n, rfl⟩ : ∃ n : Nat, k = (n : Int) := ⟨k.toNat, by omega⟩
  by_cases h0 : n = 0
  · subst h0
    go_enter Tryz.func60, Tryz.ntmps60
    go_wp2
    go_ret
    exact ⟨⟨_, rfl⟩, Ext.refl _⟩
  · have g0 : ¬ ((n : Int) ≤ 0) := by omega
    have H1 : Hid (n ≤ 1099511627776) := by show _ ≤ _; omega
    clear k0 k1 h0
    go_enter Tryz.func60, Tryz.ntmps60
    go_wp2
    clear g0
    go_loopw [0, 3] (fun t v wr => ∃ (j : Nat) (s : ByteArray), t = .int .i64 (j : Int) ∧ v = .string s ∧ s.size + j ≤ n ∧ Ext w wr) (fun t _ _ => (intOf t).toNat)
    case atStart => exact ⟨n, ⟨#[]⟩, rfl, rfl, by show 0 + n ≤ n; omega, Ext.refl _⟩
    case round =>
      obtain ⟨j, s, rfl, rfl, hj, hE⟩ := hrel
      have HJ := hide hj
      have HE := hide hE
      clear hj hE
      by_cases hp : 0 < j
      · have g1 : (0 : Int) < (j : Int) := by omega
        have HN := H1.out
        have HJ2 := HJ.out
        obtain ⟨q, r, hq, hes⟩ := mt_nums (j := j) (by omega) (by omega)
        have Hes := hide hes
        clear hes
        obtain ⟨s1, hsz, hcv⟩ := conv1 wr (48 + (r : Int))
        have Hsz := hide hsz
        clear hsz
        have hcat : ∀ W, (Op.stringOp .add s1 s).run Tryz.prog W = .ok (.string (s1 ++ s)) W := fun W => run_string_add_sum W s1 s (by have := Hsz.out; omega)
        have Hcs : Hid ((s1 ++ s).size + q ≤ n ∧ q < j) := by
          have h1 := cat_size s1 s
          have := Hsz.out
          exact ⟨by omega, hq⟩
        have HX : Hid (Ext wr (wr.alloc (.cells #[.int .u8 (48 + (r : Int))] 5))) := hide (Ext.alloc _ _)
        generalize s1 ++ s = s2 at *
        clear hq HN HJ2 hp
        obtain ⟨e1, e2, e3, e4, e5, e6, e7, e8, e9⟩ := Hes.out
        clear Hes
        go_wp2
        go_roundw
        case rel => exact ⟨q, s2, rfl, rfl, Hcs.out.1, HE.out.trans HX.out⟩
        case measure => clear e1 e2 e3 e4 e5 e6 e7 e8 e9; have := Hcs.out.2; simp [intOf]; omega
      · obtain rfl : j = 0 := by omega
        have HN := H1.out
        have HJ2 := HJ.out
        have hcat : ∀ W, (Op.stringOp .add (⟨#[109]⟩ : ByteArray) s).run Tryz.prog W = .ok (.string ((⟨#[109]⟩ : ByteArray) ++ s)) W := fun W => run_string_add_sum W _ s (by show 1 + s.size ≤ 9223372036854775807; omega)
        generalize (⟨#[109]⟩ : ByteArray) ++ s = s2 at *
        clear HN HJ2 hp
        go_wp2
        go_ret
        exact ⟨⟨_, rfl⟩, HE.out⟩

set_option maxHeartbeats 1600000 in
theorem markStringS_any (a : Option Addr) (g off n cap : Nat) (k : Int) (S T : Nat) (w : World) (hs : SAny w a g off n) (h1 : S ≤ g) (h2 : g < T) (hn : n ≤ 1048576) (hk0 : 0 ≤ k) (hk1 : k ≤ 1073741824) :
    Calls Tryz.prog 30 #[.slice a n cap, .int .i64 k] w fun e w' => e = .returned (.int .i64 (k + n)) ∧ Mkw S T w w' := by
  have HM : Hid (∀ (j : Nat) (W : World), j ≤ n → Calls Tryz.prog 60 #[.int .i64 (k + j)] W fun e w' => (∃ s, e = .returned (.string s)) ∧ Ext W w') := fun j W hj => markText_any (k + j) (by omega) (by omega) W
  have Hat := hide hs.at'
  have H1 := hide h1
  have H2 := hide h2
  have HS := hide hs
  clear hs h1 h2
  go_enter Tryz.func30, Tryz.ntmps30
  go_wp2
  go_loopw [1, 5] (fun t i wr => ∃ j : Nat, j ≤ n ∧ i = .int .i64 j ∧ t = .int .i64 (k + j) ∧ SAny wr a g off n ∧ Mkw S T w wr) (fun _ i _ => n - (intOf i).toNat)
  case atStart => exact ⟨0, Nat.zero_le _, rfl, by go_num, HS.out, Mkw.refl _ _ _⟩
  case round =>
    clear HS
    obtain ⟨j, hj, rfl, rfl, hO, hT⟩ := hrel
    have HO := hide hO
    have HT := hide hT
    clear hO hT
    by_cases hlt : j < n
    · obtain rfl := Hat.out (by omega)
      have hjn : (j : Int) < (n : Int) := by omega
      have HMj := hide (HM.out j wr hj)
      go_wp2_with fail
      refine HMj.out.mono ?_
      rintro e w1 ⟨⟨s, rfl⟩, hE⟩
      have hO1 := HO.out.of_all hE
      obtain ⟨s0, hc⟩ := hO1.cell j hlt
      have hf := hO1.free j hlt
      have HO' := hide (hO1.set hlt s)
      have HT' := hide ((HT.out.trans (Mkw.of_ext hE)).set (off + j) (.string s) H1.out H2.out)
      clear hO1 hE HMj HO HT
      go_wp2
      go_roundw
      case rel => exact ⟨j + 1, by omega, by go_num, by go_num, HO'.out, HT'.out⟩
      case measure => simp [intOf]; omega
    · obtain rfl : j = n := by omega
      go_wp2
      go_ret
      exact ⟨rfl, HT.out⟩
end

end Go.Proofs.YtgdjaapjdmancaaGreatDoor
