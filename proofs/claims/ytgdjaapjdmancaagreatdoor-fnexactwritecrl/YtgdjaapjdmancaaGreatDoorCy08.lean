/- Numbers of many digits, plain: the value of a list of digits to the base 65536, its bounds, and that a list without noughts at its end is told by its value. Nothing of the program. What a call that answers a natural and a bool hands back: told by its value alone. Nothing of the program. Walks of small helpers: l1Digit, l1Norm; plain notions on digits behind a list's end. Walks: bits.Len of a digit, and the program's digitsBits: how many bits a list of digits has. Walks: NatBytes, the model's and the program's. Plain facts: the bytes of a natural, with a byte 0 ahead just where it is asked for; a byte ahead of others. Pieces: what one is, rows of them, one made of others; lists of numbers as pieces. Walks: lists of pieces. Walks: the model's keys as items: l10Ints, l10Nat. Walks: bytes.Equal, and the model's l1Same: whether two lists of bytes are alike. Plain notions for walks over strings: the byte at a place, what a round of a range over a string comes to, lists of strings of the call's own. Lists of strings in memory; the laws' own helpers over them; a list of strings that came in, opened. -/
import Derived.WalkKit
import Derived.Test.YtgdjaapjdmancaaGreatDoorCy01
import Derived.Test.YtgdjaapjdmancaaGreatDoorChecked
import Derived.WalkLawsBesides
import Derived.OwnWalk
import Derived.Maps.AppendAt
import Derived.Lib.BitFns
import Derived.Lib.Tables
import Derived.Test.YtgdjaapjdmancaaGreatDoorCy07
import Derived.Test.YtgdjaapjdmancaaGreatDoorCy05
import Derived.Laws.BytesArg
import Derived.Lib.OthersKept
import Derived.Laws.DeepStrings4
import Derived.Laws.IdiomStrings
import Derived.Test.YtgdjaapjdmancaaGreatDoorRows
import Derived.SliceStrings
import Derived.ProofKit
import Derived.OpenShut
import Derived.ChangeOld
import Derived.Below
namespace Go.Proofs.YtgdjaapjdmancaaGreatDoor

section
set_option linter.unusedVariables false

/-- 65536 to a power. -/
def pw : Nat → Int
  | 0 => 1
  | k + 1 => pw k * 65536

theorem pw_pos (k : Nat) : 0 < pw k := by
  induction k with
  | zero => simp [pw]
  | succ k ih => simp only [pw]; omega

/-- The value of the first n digits. -/
def val (f : Nat → Int) : Nat → Int
  | 0 => 0
  | n + 1 => val f n + f n * pw n

/-- The first n are digits. -/
def Digs (f : Nat → Int) (n : Nat) : Prop := ∀ i, i < n → 0 ≤ f i ∧ f i ≤ 65535

theorem Digs.mono {f : Nat → Int} {n m : Nat} (h : Digs f n) (hm : m ≤ n) : Digs f m := fun i hi => h i (by omega)

theorem Digs.congr {f g : Nat → Int} {n : Nat} (h : Digs f n) (e : ∀ i, i < n → f i = g i) : Digs g n := fun i hi => by rw [← e i hi]; exact h i hi

theorem mul_bd {d P : Int} (hP : 0 ≤ P) (h0 : 0 ≤ d) (h1 : d ≤ 65535) : 0 ≤ d * P ∧ d * P ≤ 65535 * P :=
  ⟨Int.mul_nonneg h0 hP, Int.mul_le_mul_of_nonneg_right h1 hP⟩

theorem val_bd {f : Nat → Int} {n : Nat} (h : Digs f n) : 0 ≤ val f n ∧ val f n < pw n := by
  induction n with
  | zero => simp [val, pw]
  | succ n ih =>
    have h1 := ih (h.mono (by omega))
    have h2 := h n (by omega)
    have h3 := mul_bd (d := f n) (Int.le_of_lt (pw_pos n)) h2.1 h2.2
    simp only [val, pw]
    omega

/-- Digits, the last one not 0. -/
structure Canon (n : Nat) (f : Nat → Int) : Prop where
  digs : Digs f n
  last : n = 0 ∨ f (n - 1) ≠ 0

theorem Canon.congr {f g : Nat → Int} {n : Nat} (h : Canon n f) (e : ∀ i, i < n → f i = g i) : Canon n g :=
  ⟨h.digs.congr e, by
    by_cases h0 : n = 0
    · exact .inl h0
    · exact .inr (by rw [← e (n - 1) (by omega)]; exact h.last.resolve_left h0)⟩

/-- A list without noughts at its end is as long as its value asks. -/
theorem Canon.low {f : Nat → Int} {n : Nat} (h : Canon (n + 1) f) : pw n ≤ val f (n + 1) := by
  have b := val_bd (h.digs.mono (Nat.le_succ n))
  have d := h.digs n (by omega)
  have hl : f n ≠ 0 := by simpa using h.last
  have := Int.mul_le_mul_of_nonneg_right (show (1 : Int) ≤ f n by omega) (Int.le_of_lt (pw_pos n))
  simp only [val]
  omega
end

section
set_option linter.unusedVariables false

open Go.RowKit

/-- The answer (a list of n digits f, ok) is nothing and false, or the natural of that value and true. -/
def IsNat : Option Int → Nat → (Nat → Int) → Bool → Prop
  | none, n, _, ok => n = 0 ∧ ok = false
  | some v, n, f, ok => Canon n f ∧ val f n = v ∧ ok = true

/-- The call hands back that answer, in new memory. -/
def GivesQ (w : World) (q : Option Int) (e : Ending) (w' : World) : Prop :=
  ∃ a g cap n f ok, e = .returned (.tuple #[.slice a n cap, .bool ok]) ∧ n ≤ 1048576 ∧ IsNat q n f ok ∧ w.heap.size ≤ g ∧ Own w' a g 0 n f ∧ Below w.heap.size w w'

theorem GivesQ.none {w w' : World} {q : Option Int} {e : Ending} {a : Option Addr} {cap : Nat} (hq : q = .none) (he : e = .returned (.tuple #[.slice a 0 cap, .bool false])) (hb : Below w.heap.size w w') : GivesQ w q e w' := by
  subst hq
  exact ⟨a, w.heap.size, cap, 0, fun _ => 0, false, he, by omega, ⟨rfl, rfl⟩, Nat.le_refl _, Own.nil _ _ _ _ _, hb⟩
end

section
set_option linter.unusedVariables false

open Go.RowKit

/-- The digit at a place; 0 behind the end. -/
def ext (n : Nat) (f : Nat → Int) (i : Nat) : Int := if i < n then f i else 0
end

section
set_option linter.unusedVariables false

open Go.RowKit

/-- How many bits n digits have. -/
def bitsOf (n : Nat) (f : Nat → Int) : Int := if n = 0 then 0 else 16 * ((n : Int) - 1) + Lib.bitLen (f (n - 1)).toNat
end

section
set_option linter.unusedVariables false

open Go.RowKit

/-- The byte at a place, counted from the low end. -/
def byt (n : Nat) (f : Nat → Int) (i : Nat) : Int := if i % 2 = 0 then ext n f (i / 2) % 256 else ext n f (i / 2) / 256

/-- NatBytes' second answer. -/
def bytB (n : Nat) (f : Nat → Int) (sz : Int) : Bool := natOk n f && (decide (0 ≤ sz) && decide (sz ≤ 128)) && decide (bitsOf n f ≤ 8 * sz)

/-- The call hands back those bytes in new memory, and ok. -/
def GivesB (w : World) (m : Nat) (F : Nat → Int) (ok : Bool) (e : Ending) (w' : World) : Prop :=
  ∃ a g cap, e = .returned (.tuple #[.slice a m cap, .bool ok]) ∧ w.heap.size ≤ g ∧ BOwn w' a g 0 m F ∧ Below w.heap.size w w'

/-- NatBytes' answer. -/
def GivesBytes (w : World) (n : Nat) (f : Nat → Int) (sz : Int) (e : Ending) (w' : World) : Prop :=
  GivesB w (if bytB n f sz then sz.toNat else 0) (fun p => byt n f (sz.toNat - 1 - p)) (bytB n f sz) e w'

theorem GivesBytes.none {w w' : World} {n : Nat} {f : Nat → Int} {sz : Int} {e : Ending} {a : Option Addr} {cap : Nat} (hq : bytB n f sz = false) (he : e = .returned (.tuple #[.slice a 0 cap, .bool false])) (hb : Below w.heap.size w w') : GivesBytes w n f sz e w' := by
  unfold GivesBytes
  rw [hq]
  exact ⟨a, w.heap.size, cap, he, Nat.le_refl _, BOwn.nil _ _ _ _ _, hb⟩
end

section
set_option linter.unusedVariables false

def consF (x : Int) (f : Nat → Int) : Nat → Int := fun i => if i = 0 then x else f (i - 1)

theorem consF_map (x : Int) (f : Nat → Int) (m : Nat) : (List.range (m + 1)).map (consF x f) = x :: (List.range m).map f := by
  rw [List.range_succ_eq_map, List.map_cons, List.map_map]
  congr 1

theorem byts_cons (x : Int) (f : Nat → Int) (m : Nat) : byts (fun _ => x) 1 ++ byts f m = byts (consF x f) (m + 1) := by
  unfold byts
  show Value.int .u8 x :: (List.range m).map (fun i => Value.int .u8 (f i)) = _
  rw [List.range_succ_eq_map, List.map_cons, List.map_map]
  rfl
end

section
set_option linter.unusedVariables false
set_option linter.unusedSimpArgs false

open Go.RowKit

/-- The blocks from B up to E lie alike. -/
def Agr (B E : Nat) (W W' : World) : Prop := ∀ k, B ≤ k → k < E → W'.heap[k]? = W.heap[k]?

theorem Agr.refl (B E : Nat) (W : World) : Agr B E W W := fun _ _ _ => rfl

theorem Agr.trans {B E : Nat} {a b c : World} (h : Agr B E a b) (k : Agr B E b c) : Agr B E a c := fun i h1 h2 => (k i h1 h2).trans (h i h1 h2)

theorem Agr.sub {B E B' E' : Nat} {a b : World} (h : Agr B E a b) (h1 : B ≤ B') (h2 : E' ≤ E) : Agr B' E' a b := fun i i1 i2 => h i (by omega) (by omega)

theorem Agr.of_ext {B E : Nat} {W W' : World} (e : Ext W W') (hE : E ≤ W.heap.size) : Agr B E W W' := fun k _ h => Below.block e k (by omega)

/-- A piece that lies between B and E, and whose items are L. -/
structure Pce (B E : Nat) (W : World) (v : Value) (L : List It) : Prop where
  bods : Bods B W L
  top : ∀ t ∈ L, 0 < t.len → t.blk < E
  hi : E ≤ W.heap.size
  its : ∀ W', Agr B E W W' → ItsC v W' L

theorem Pce.keep {B E : Nat} {W W' : World} {v : Value} {L : List It} (h : Pce B E W v L) (a : Agr B E W W') (hs : W.heap.size ≤ W'.heap.size) : Pce B E W' v L :=
  ⟨h.bods.of_blk (fun t ht h0 => a _ (h.bods.up t ht h0) (h.top t ht h0)), h.top, Nat.le_trans h.hi hs, fun W2 a2 => h.its W2 (a.trans a2)⟩

theorem Pce.ext {B E : Nat} {W W' : World} {v : Value} {L : List It} (h : Pce B E W v L) (e : Ext W W') : Pce B E W' v L := h.keep (.of_ext e h.hi) (Below.size e)

theorem Pce.wide {B E B' E' : Nat} {W : World} {v : Value} {L : List It} (h : Pce B E W v L) (h1 : B' ≤ B) (h2 : E ≤ E') (h3 : E' ≤ W.heap.size) : Pce B' E' W v L :=
  ⟨h.bods.low h1, fun t ht h0 => Nat.lt_of_lt_of_le (h.top t ht h0) h2, h3, fun W' a => h.its W' (a.sub h1 h2)⟩

theorem Pce.form {B E : Nat} {W : World} {v : Value} {L : List It} (h : Pce B E W v L) : ∃ T tag a n cap, v = .iface T (.agg #[.int .i64 tag, .slice a n cap]) := by
  obtain ⟨tg, aa, nn, cc, h | h⟩ := h.its W (Agr.refl _ _ _)
  · exact ⟨_, tg, aa, nn, cc, h.1⟩
  · exact ⟨_, tg, aa, nn, cc, h.1⟩

/-- A call that hands back a new piece whose items tell C. -/
def GivesPc (w : World) (C : List Ic) (e : Ending) (w' : World) : Prop := ∃ v L, e = .returned v ∧ Pce w.heap.size w'.heap.size w' v L ∧ L.map ct = C ∧ Ext w w'

/-- Pieces that lie between B and E. -/
structure Pcs (B E : Nat) (W : World) (P : List (Value × List It)) : Prop where
  its : ∀ p ∈ P, ∀ W', Agr B E W W' → ItsC p.1 W' p.2
  bods : Bods B W (P.flatMap (·.2))
  top : ∀ t ∈ P.flatMap (·.2), 0 < t.len → t.blk < E
  hi : E ≤ W.heap.size

theorem Pcs.nil (B E : Nat) (W : World) (h : E ≤ W.heap.size) : Pcs B E W [] := ⟨fun _ h => by simp at h, Bods.nil _ _, fun _ h => by simp at h, h⟩

theorem Pcs.keep {B E : Nat} {W W' : World} {P : List (Value × List It)} (h : Pcs B E W P) (a : Agr B E W W') (hs : W.heap.size ≤ W'.heap.size) : Pcs B E W' P :=
  ⟨fun p hp W2 a2 => h.its p hp W2 (a.trans a2), h.bods.of_blk (fun t ht h0 => a _ (h.bods.up t ht h0) (h.top t ht h0)), h.top, Nat.le_trans h.hi hs⟩

theorem Pcs.ext {B E : Nat} {W W' : World} {P : List (Value × List It)} (h : Pcs B E W P) (e : Ext W W') : Pcs B E W' P := h.keep (.of_ext e h.hi) (Below.size e)

theorem Pcs.wide {B E B' E' : Nat} {W : World} {P : List (Value × List It)} (h : Pcs B E W P) (h1 : B' ≤ B) (h2 : E ≤ E') (h3 : E' ≤ W.heap.size) : Pcs B' E' W P :=
  ⟨fun p hp W' a => h.its p hp W' (a.sub h1 h2), h.bods.low h1, fun t ht h0 => Nat.lt_of_lt_of_le (h.top t ht h0) h2, h3⟩

theorem Pcs.cat {B E B2 E2 : Nat} {W : World} {P R : List (Value × List It)} (h : Pcs B E W P) (k : Pcs B2 E2 W R) (h1 : B ≤ B2) (h2 : E ≤ B2) (h3 : E ≤ E2) : Pcs B E2 W (P ++ R) := by
  refine ⟨fun p hp W' a => ?_, ?_, fun t ht h0 => ?_, k.hi⟩
  · rcases List.mem_append.1 hp with hp | hp
    · exact h.its p hp W' (a.sub (Nat.le_refl _) h3)
    · exact k.its p hp W' (a.sub h1 (Nat.le_refl _))
  · rw [List.flatMap_append]
    refine ⟨fun t ht => ?_, fun t ht h0 => ?_, fun t ht => ?_, ?_⟩
    · rcases List.mem_append.1 ht with ht | ht
      · exact h.bods.own t ht
      · exact k.bods.own t ht
    · rcases List.mem_append.1 ht with ht | ht
      · exact h.bods.up t ht h0
      · exact Nat.le_trans h1 (k.bods.up t ht h0)
    · rcases List.mem_append.1 ht with ht | ht
      · exact h.bods.nf t ht
      · exact k.bods.nf t ht
    · rw [List.pairwise_append]
      refine ⟨h.bods.apart, k.bods.apart, fun s hs t ht h0 h4 => ?_⟩
      have a := h.top s hs h0
      have b := k.bods.up t ht h4
      omega
  · rw [List.flatMap_append] at ht
    rcases List.mem_append.1 ht with ht | ht
    · exact Nat.lt_of_lt_of_le (h.top t ht h0) h3
    · exact k.top t ht h0

theorem Pce.one {B E : Nat} {W : World} {v : Value} {L : List It} (h : Pce B E W v L) : Pcs B E W [(v, L)] :=
  ⟨fun p hp W' a => by rw [List.mem_singleton] at hp; subst hp; exact h.its W' a, by simpa using h.bods, by simpa using h.top, h.hi⟩

theorem Pcs.add {B E E2 : Nat} {W W2 : World} {P : List (Value × List It)} {v : Value} {L : List It} (h : Pcs B E W P) (a : Agr B E W W2) (hs : W.heap.size ≤ W2.heap.size) (k : Pce W.heap.size E2 W2 v L) (h1 : B ≤ W.heap.size) (h3 : W.heap.size ≤ E2) : Pcs B E2 W2 (P ++ [(v, L)]) :=
  (h.keep a hs).cat k.one h1 h.hi (Nat.le_trans h.hi h3)

/-- One made of others. -/
theorem Pce.knot {B E : Nat} {W : World} {a : Option Addr} {n cap : Nat} {P : List (Value × List It)} (tag : Int) (h : Pcs B E W P) (hr : W.ownsRow B 47 1 (.slice a n cap) P.length (P.map (·.1))) (hl : (P.flatMap (·.2)).length ≤ 100000) (hP : P.length ≤ 100000) :
    Pce B W.heap.size W (.iface 98 (.agg #[.int .i64 tag, .slice a n cap])) (bare tag P.length :: P.flatMap (·.2)) := by
  refine ⟨h.bods.bare _ _, fun t ht h0 => ?_, Nat.le_refl _, fun W' ag => ⟨tag, a, n, cap, .inr ⟨rfl, ?_⟩⟩⟩
  · rcases List.mem_cons.1 ht with rfl | ht
    · exact absurd h0 (Nat.lt_irrefl _)
    · exact h.bods.lt ht h0
  · have hr' : W'.ownsRow B 47 1 (.slice a n cap) P.length (P.map (·.1)) := by
      refine ⟨hr.1, ?_⟩
      rcases hr.2 with h0 | ⟨g, c, cur, h0, hb, hg, rest⟩
      · exact .inl h0
      · refine .inr ⟨g, c, cur, h0, hb, ?_, rest⟩
        have hlt : g < W.heap.size := by
          by_cases c : g < W.heap.size
          · exact c
          · rw [Array.getElem?_eq_none (by omega)] at hg; exact absurd hg (by simp)
        rw [ag g hb hlt]
        exact hg
    have hW : ∀ W2, Ext W' W2 → Agr B E W W2 := fun W2 e => by
      intro k h1 h2
      have h3 := ag k h1 (Nat.lt_of_lt_of_le h2 h.hi)
      have h4 : k < W'.heap.size := by
        by_cases c : k < W'.heap.size
        · exact c
        · rw [Array.getElem?_eq_none (by omega)] at h3
          have := h.hi
          rw [Array.getElem?_eq_getElem (by omega)] at h3
          exact absurd h3 (by simp)
      exact (Below.block e k h4).trans h3
    exact knotItems_any tag P B _ W' hr' (fun p hp W2 e => h.its p hp W2 (hW W2 e)) hl hP

/-- One with bytes. -/
theorem Pce.leaf {B : Nat} {W : World} {a : Option Addr} {g off n cap : Nat} {f : Nat → Int} (tag : Int) (h : BOwn W a g off n f) (hg : B ≤ g) : Pce B W.heap.size W (.iface 113 (.agg #[.int .i64 tag, .slice a n cap])) [⟨tag, 0, a, g, off, n, cap, nfF n f⟩] :=
  ⟨Bods.one tag h hg, fun t ht h0 => by rw [List.mem_singleton] at ht; subst ht; exact h.toBSeg.lt h0, Nat.le_refl _, fun W' _ => ⟨tag, a, n, cap, .inl ⟨rfl, leafItems_any tag a g off n cap (nfF n f) W'⟩⟩⟩

theorem leafPiece_any (tag : Int) (a : Option Addr) (n cap : Nat) (w : World) :
    Calls Tryz.prog 79 #[.int .i64 tag, .slice a n cap] w fun e w' => e = .returned (.iface 113 (.agg #[.int .i64 tag, .slice a n cap])) ∧ w' = w := by
  go_enter Tryz.func79, Tryz.ntmps79
  go_wp2
  go_ret
  exact ⟨rfl, rfl⟩

theorem listPiece_any (a : Option Addr) (n cap : Nat) (w : World) :
    Calls Tryz.prog 55 #[.slice a n cap] w fun e w' => e = .returned (.iface 98 (.agg #[.int .i64 48, .slice a n cap])) ∧ w' = w := by
  go_enter Tryz.func55, Tryz.ntmps55
  go_wp2
  go_ret
  exact ⟨rfl, rfl⟩

theorem intPiece_any (n : Int) (w : World) (h0 : -9223372036854775808 ≤ n) (h1 : n ≤ 9223372036854775807) :
    Calls Tryz.prog 56 #[.int .i64 n] w fun e w' => GivesPc w [intC n] e w' := by
  have HI := hide (implIntBytes_any n (ilen n) (ilen_is n h0 h1) w h0 h1)
  have HB : Hid (intC n = ⟨2, 0, (List.range (ilen n + 1)).map (fun i => ib n (ilen n - i))⟩) := rfl
  generalize intC n = C at *
  generalize ilen n + 1 = M at *
  generalize (fun i => ib n (ilen n - i)) = F at *
  go_enter Tryz.func56, Tryz.ntmps56
  go_wp2_with fail
  refine HI.out.mono ?_
  rintro e w1 ⟨a, g, cap, rfl, hg, hO, hE⟩
  have HE := hide hE
  have HO := hide hO
  clear hE hO HI
  go_wp2_with fail
  refine (leafPiece_any 2 a M cap w1).mono ?_
  rintro e w2 ⟨rfl, hw⟩
  obtain rfl := hw.symm
  go_wp2
  go_ret
  exact ⟨_, _, rfl, Pce.leaf 2 HO.out hg, by rw [List.map_cons, ct_one, HB.out]; rfl, HE.out⟩

set_option maxHeartbeats 800000 in
theorem bitsPiece_any (a : Option Addr) (b off n cap : Nat) (f : Nat → Int) (w : World) (hB : BSeg w a b off n f) (hn : n ≤ 1000000) :
    Calls Tryz.prog 61 #[.slice a n cap] w fun e w' => GivesPc w [⟨3, 0, 0 :: (List.range n).map f⟩] e w' := by
  have Hb := hide (hB.of_all (Ext.alloc w (.cells #[.int .u8 0] 5)))
  clear hB
  go_enter Tryz.func61, Tryz.ntmps61
  go_wp2_with (at_builtin; refine stop_app rfl ?_)
  refine hide ?_
  refine wpList_append_bs rfl _ _ rfl w.heap.size _ 1 (byts (fun _ => 0) 1) rfl (owns_one8 w 0) a b off n cap f rfl Hb.out (by omega) (by simp) ?_
  intro v4 w4 h1 h2
  rw [byts_cons, Nat.add_comm] at h1
  obtain ⟨xa, xg, xc, rfl, hxg, -, -, hxB⟩ := owns_seg h1
  have HX := hide hxB
  have HE : Hid (Ext w w4) := hide (Below.trans (Ext.alloc _ _) h2)
  clear h1 h2 hxB Hb
  generalize hN : n + 1 = N at *
  have HN := hide hN
  clear hN
  go_wp2_with fail
  refine (leafPiece_any 3 xa N xc w4).mono ?_
  rintro e w2 ⟨rfl, hw⟩
  obtain rfl := hw.symm
  go_wp2
  go_ret
  exact ⟨_, _, rfl, Pce.leaf 3 HX.out hxg, by rw [List.map_cons, ct_one, ← HN.out, consF_map]; rfl, HE.out⟩
end

section
set_option linter.unusedVariables false
set_option linter.unusedSimpArgs false

open Go.RowKit

/-- A call that hands back a new list of new pieces, whose items tell these. -/
def GivesPs (w : World) (Cs : List (List Ic)) (e : Ending) (w' : World) : Prop :=
  ∃ P, e = .returned (.slice (some ⟨w.heap.size, 0, none⟩) P.length P.length) ∧ w'.ownsRow w.heap.size 47 1 (.slice (some ⟨w.heap.size, 0, none⟩) P.length P.length) P.length (P.map (·.1)) ∧ Pcs (w.heap.size + 1) w'.heap.size w' P ∧ P.map (fun p => p.2.map ct) = Cs ∧ Ext w w'

theorem set_mid {α : Type} (L : List α) (x y : α) (m : Nat) : (L ++ List.replicate (m + 1) x).set L.length y = (L ++ [y]) ++ List.replicate m x := by
  rw [List.set_append_right _ _ (Nat.le_refl _), Nat.sub_self, List.replicate_succ, List.set_cons_zero]
  simp

theorem Tryz.infoPc : (Tryz.prog.info? 47).map (fun i => (i.zero, i.size, i.bytes)) = some (some .nilIface, 1, 16) := by kernel_rfl

theorem owns_nils (w : World) (n : Nat) (hn : n ≤ 1048576) : (w.alloc (.cells (madeCells #[.nilIface] n) 47)).ownsRow w.heap.size 47 1 (.slice (some ⟨w.heap.size, 0, none⟩) n n) n (List.replicate n .nilIface) := by
  have := World.ownsRow_lit (e := 47) (size := 1) (base := w.heap.size) w (madeCells #[.nilIface] n) n (Nat.le_refl _) (by unfold maxLen; omega) (by rw [size_madeCells]; simp)
  have e : (madeCells #[.nilIface] n).toList = List.replicate n .nilIface := by
    refine List.ext_getElem ?_ ?_
    · simp [size_madeCells]
    · intro i h1 h2
      simp [madeCells, Nat.mod_one]
  rwa [e] at this

theorem run_make_pcs (n : Nat) (hn : n ≤ 1048576) (w : World) : (Instr.makeSlice 80 (.int .i64 (n : Int)) (.int .i64 (n : Int))).run Tryz.prog w = .ok (.slice (some ⟨w.heap.size, 0, none⟩) n n) (w.alloc (.cells (madeCells #[.nilIface] n) 47)) := by
  obtain ⟨i, hi, hz, hs, hb⟩ := info_parts Tryz.infoPc
  have hr := run_make (P := Tryz.prog) w 80 47 i _ Tryz.underlying80 hi hz .i64 .i64 n n (by omega) (Int.le_refl _) (by rw [hb]; omega) (by omega)
  simp only [Int.toNat_natCast, hs, Nat.mul_one] at hr
  exact hr

set_option maxHeartbeats 3200000 in
set_option maxRecDepth 100000 in
theorem mappedInt_any (a : Option Addr) (b off n cap : Nat) (f : Nat → Int) (w : World) (hs : Seg w a b off n f) (hn : n ≤ 1000) (hf : ∀ i, i < n → -9223372036854775808 ≤ f i ∧ f i ≤ 9223372036854775807) :
    Calls Tryz.prog 83 #[.slice a n cap, .func (.func 56) #[] #[]] w fun e w' => GivesPs w ((List.range n).map (fun i => [intC (f i)])) e w' := by
  have HN := hide (owns_nils w n (by omega))
  have hmk := run_make_pcs n (by omega)
  have HI : Hid (∀ i, i < n → ∀ W, Calls Tryz.prog 56 #[.int .i64 (f i)] W fun e w' => GivesPc W [intC (f i)] e w') := fun i hi W => intPiece_any (f i) W (hf i hi).1 (hf i hi).2
  have Hs := hide hs
  clear hs hf
  go_enter Tryz.func83, Tryz.ntmps83
  go_wp2
  clear hmk
  go_loopw [13] (fun k wr => ∃ (j : Nat) (P : List (Value × List It)), j ≤ n ∧ k = .int .i64 (j : Int) ∧ P.length = j ∧ wr.ownsRow w.heap.size 47 1 (.slice (some ⟨w.heap.size, 0, none⟩) n n) n (P.map (·.1) ++ List.replicate (n - j) .nilIface) ∧ Pcs (w.heap.size + 1) wr.heap.size wr P ∧ P.map (fun p => p.2.map ct) = (List.range j).map (fun i => [intC (f i)]) ∧ Ext w wr) (fun k _ => n - (intOf k).toNat)
  case atStart => exact ⟨0, [], Nat.zero_le _, rfl, rfl, HN.out, Pcs.nil _ _ _ (Nat.le_refl _), rfl, Ext.alloc _ _⟩
  case round =>
    clear HN
    obtain ⟨j, P, hj, rfl, hPl, hO, hP, hC, hE⟩ := hrel
    have HO := hide hO
    have HP := hide hP
    have HC := hide hC
    have HE := hide hE
    have HPl := hide hPl
    by_cases hlt : j < n
    · have hjk : (j : Int) < (n : Int) := by omega
      obtain rfl := Hs.out.at' (by omega)
      have cj := (Hs.out.of_all HE.out).cell j hlt
      have HIj := hide (HI.out j hlt wr)
      clear hO hP hC hE hPl
      have W1 : Hid (wrap64 ((j : Int) + 1) = (j : Int) + 1) := by show _ = _; unfold wrap64; omega
      go_wp2_with fail
      refine HIj.out.mono ?_
      rintro e2 w2 ⟨v2, L2, rfl, h2, h2c, h2E⟩
      have H2 := hide h2
      have H2c := hide h2c
      have H2E := hide h2E
      have hO2 := ownsRow_ext HO.out h2E
      have cz : w2.cell? ⟨w.heap.size, j, none⟩ = some .nilIface := row_cell1 hO2 (by
        rw [List.getElem?_append_right (by simp [HPl.out]), List.length_map, HPl.out, Nat.sub_self, List.getElem?_replicate, if_pos (by omega)])
      have fz : w2.frozen? ⟨w.heap.size, j, none⟩ = false := World.ownsRow.frozenAt hO2 j
      obtain ⟨tg, aa, nn, cc, hv⟩ : ∃ tg aa nn cc, v2 = .iface 113 (.agg #[.int .i64 tg, .slice aa nn cc]) ∨ v2 = .iface 98 (.agg #[.int .i64 tg, .slice aa nn cc]) := by
        obtain ⟨tg, aa, nn, cc, h | h⟩ := h2.its w2 (Agr.refl _ _ _)
        · exact ⟨tg, aa, nn, cc, .inl h.1⟩
        · exact ⟨tg, aa, nn, cc, .inr h.1⟩
      have HO2 := hide hO2
      clear h2 h2c h2E hO2
      have hst : ∀ v2, Pce wr.heap.size w2.heap.size w2 v2 L2 → (w2.setCell ⟨w.heap.size, j, none⟩ v2).ownsRow w.heap.size 47 1 (.slice (some ⟨w.heap.size, 0, none⟩) n n) n ((P ++ [(v2, L2)]).map (·.1) ++ List.replicate (n - (j + 1)) .nilIface) ∧ Pcs (w.heap.size + 1) (w2.setCell ⟨w.heap.size, j, none⟩ v2).heap.size (w2.setCell ⟨w.heap.size, j, none⟩ v2) (P ++ [(v2, L2)]) ∧ Ext w (w2.setCell ⟨w.heap.size, j, none⟩ v2) := fun v2 hv2 => by
        have hR : w.heap.size < wr.heap.size := (HO.out.lt w.heap.size rfl).2
        have hbk : ∀ k, k ≠ w.heap.size → (w2.setCell ⟨w.heap.size, j, none⟩ v2).heap[k]? = w2.heap[k]? := fun k hk => Below.heap_setCell _ _ _ _ (by simpa using hk)
        have hsz : (w2.setCell ⟨w.heap.size, j, none⟩ v2).heap.size = w2.heap.size := by simp [World.setCell]
        have hs2 : wr.heap.size ≤ w2.heap.size := Below.size H2E.out
        refine ⟨?_, ?_, Below.setCell (p := ⟨w.heap.size, j, none⟩) (Ext.trans HE.out H2E.out) (Nat.le_refl _) _⟩
        · have := (World.ownsRow.stored HO2.out j v2).1
          have e : (P.map (·.1) ++ List.replicate (n - j) Value.nilIface).set j v2 = (P ++ [(v2, L2)]).map (·.1) ++ List.replicate (n - (j + 1)) .nilIface := by
            have h1 := set_mid (P.map (·.1)) Value.nilIface v2 (n - (j + 1))
            rw [List.length_map, HPl.out, show n - (j + 1) + 1 = n - j by omega] at h1
            rw [h1, List.map_append]
            rfl
          rw [e] at this
          exact this
        · rw [hsz]
          refine Pcs.add (W := wr) (E := wr.heap.size) HP.out (fun k h1 h2 => (hbk k (by omega)).trans (Below.block H2E.out k h2)) (by rw [hsz]; exact hs2) (hv2.keep (fun k h1 h2 => hbk k (by omega)) (by rw [hsz]; exact Nat.le_refl _)) (by omega) hs2
      have Hst := hide (hst v2 H2.out)
      clear hst
      have HNC : Hid ((P ++ [(v2, L2)]).map (fun p => p.2.map ct) = (List.range (j + 1)).map (fun i => [intC (f i)])) := by
        show _ = _
        rw [List.map_append, HC.out, List.range_succ, List.map_append]
        congr 1
        show [L2.map ct] = _
        rw [H2c.out]
        rfl
      rcases hv with hv | hv
      all_goals
        have Hv := hide hv
        clear H2
        subst hv
        go_wp2
        refine ⟨⟨j + 1, P ++ [(_, L2)], by omega, by (try rw [W1.out]); congr 1, by rw [List.length_append, HPl.out]; rfl, Hst.out.1, Hst.out.2.1, HNC.out, Hst.out.2.2⟩, ?_⟩
        try rw [W1.out]
        show n - ((j : Int) + 1).toNat < n - ((j : Int)).toNat
        omega
    · obtain rfl : j = n := by omega
      have hjk : ¬ (j : Int) < (j : Int) := by omega
      clear hO hP hC hE hPl
      have HO3 := HO.out
      rw [Nat.sub_self, List.replicate_zero, List.append_nil] at HO3
      have HO4 := hide HO3
      clear HO3 HO
      go_wp2
      go_ret
      exact ⟨P, by rw [HPl.out]; rfl, by rw [HPl.out]; exact HO4.out, HP.out, HC.out, HE.out⟩

theorem intPieces_any (a : Option Addr) (b off n cap : Nat) (f : Nat → Int) (w : World) (hs : Seg w a b off n f) (hn : n ≤ 1000) (hf : ∀ i, i < n → -9223372036854775808 ≤ f i ∧ f i ≤ 9223372036854775807) :
    Calls Tryz.prog 59 #[.slice a n cap] w fun e w' => GivesPs w ((List.range n).map (fun i => [intC (f i)])) e w' := by
  have HM := hide (mappedInt_any a b off n cap f w hs hn hf)
  clear hs hf
  go_enter Tryz.func59, Tryz.ntmps59
  go_wp2_with fail
  refine HM.out.mono ?_
  rintro e w1 ⟨P, rfl, h1, h2, h3, h4⟩
  have H1 := hide h1
  have H2 := hide h2
  have H3 := hide h3
  have H4 := hide h4
  clear h1 h2 h3 h4 HM
  go_wp2
  go_ret
  exact ⟨P, rfl, H1.out, H2.out, H3.out, H4.out⟩
end

section
set_option linter.unusedVariables false
set_option linter.unusedSimpArgs false

open Go.RowKit

theorem map_len {α β : Type} {f : α → β} {L : List α} {M : List β} (h : L.map f = M) : L.length = M.length := by rw [← h, List.length_map]

set_option maxHeartbeats 1600000 in
set_option maxRecDepth 100000 in
theorem l10Ints_any (a : Option Addr) (b off n cap : Nat) (f : Nat → Int) (w : World) (hs : Seg w a b off n f) (hn : n ≤ 1000) (hf : ∀ i, i < n → -9223372036854775808 ≤ f i ∧ f i ≤ 9223372036854775807) :
    Calls Tryz.prog 43 #[.slice a n cap] w fun e w' => GivesIs w.heap.size w ((List.range n).map (fun i => intC (f i))) e w' := by
  have HI : Hid (∀ i, i < n → ∀ W, Calls Tryz.prog 40 #[.int .i64 (f i)] W fun e w' => GivesIs W.heap.size W [intC (f i)] e w') := fun i hi W => l10Int_any (f i) W (hf i hi).1 (hf i hi).2
  have H0 := hide (LAcc.nil w w.heap.size (Nat.le_refl _))
  have Hs := hide hs
  clear hs hf
  go_enter Tryz.func43, Tryz.ntmps43
  go_wp2
  go_loopw [3, 4] (fun v k wr => ∃ (j : Nat) (L : List It), j ≤ n ∧ k = .int .i64 (j : Int) ∧ LAcc w.heap.size wr v L ∧ L.map ct = (List.range j).map (fun i => intC (f i)) ∧ Ext w wr) (fun _ k _ => n - (intOf k).toNat)
  case atStart => exact ⟨0, [], Nat.zero_le _, rfl, H0.out, rfl, Ext.alloc _ _⟩
  case round =>
    clear H0
    obtain ⟨j, L, hj, rfl, hA, hC, hE⟩ := hrel
    have hll : L.length = j := by have := map_len hC; simpa using this
    by_cases hlt : j < n
    · have hjk : (j : Int) < (n : Int) := by omega
      obtain rfl := Hs.out.at' (by omega)
      have cj := (Hs.out.of_all hE).cell j hlt
      have HIj := hide (HI.out j hlt)
      have HN : Hid (((List.range j).map (fun i => intC (f i))) ++ [intC (f j)] = (List.range (j + 1)).map (fun i => intC (f i))) := by show _ = _; rw [List.range_succ, List.map_append]; rfl
      have Hll := hide hll
      have HA := hide hA
      have HC := hide hC
      have HE := hide hE
      clear hA hC hE hll HI
      generalize f j = d at *
      have W1 : Hid (wrap64 ((j : Int) + 1) = (j : Int) + 1) := by show _ = _; unfold wrap64; omega
      go_wp2_with (first | (go_at_call 40; refine (HIj.out _).mono ?_; rintro e w1 ⟨v1, M, rfl, hM, hMc, hE1⟩; have HM := hide hM; have HMc := hide hMc; have HE1 := hide hE1; clear hM hMc hE1) | (at_builtin; refine stop_app rfl ?_))
      refine hide ?_
      have hlt := HA.out.later HE1.out HM.out.bods (Below.size HE.out)
      refine wpList_appL rfl _ _ rfl w.heap.size wr.heap.size wr _ _ L M rfl HA.out HE1.out rfl HM.out.row hlt.1 hlt.2 (by have := Hll.out; have := map_len HMc.out; simp at this; omega) (Below.size HE.out) ?_
      intro v' w2 hA2 hB2
      have HA2 := hide hA2
      have HE2 : Hid (Ext w w2) := hide (Below.trans (Ext.trans HE.out HE1.out) (hB2 _ (fun k hk => (HA.out.row.lt k hk).1) (Nat.le_trans (Below.size HE.out) (Below.size HE1.out))))
      clear hA2 hB2 hlt cj
      go_wp2
      refine ⟨⟨j + 1, L ++ M, by omega, by (try rw [W1.out]); congr 1, HA2.out, by rw [List.map_append, HC.out, HMc.out]; exact HN.out, HE2.out⟩, ?_⟩
      try rw [W1.out]
      show n - ((j : Int) + 1).toNat < n - ((j : Int)).toNat
      omega
    · obtain rfl : j = n := by omega
      have hjk : ¬ (j : Int) < (j : Int) := by omega
      have HA := hide hA
      have HC := hide hC
      have HE := hide hE
      clear hA hC hE hll HI
      go_wp2
      go_ret
      exact ⟨_, L, rfl, HA.out, HC.out, HE.out⟩
end

section
set_option linter.unusedVariables false
set_option linter.unusedSimpArgs false

open Go.RowKit

/-- The first m numbers. -/
def nums (F : Nat → Int) (m : Nat) : List Int := (List.range m).map F

theorem conv_seg {w : World} {a : Option Addr} {g o m cap : Nat} {F : Nat → Int} (hs : BSeg w a g o m F) : (convert 24 9 (.slice a m cap)).run Tryz.prog w = .ok (.string (strOfNums (nums F m))) w := by
  by_cases h0 : m = 0
  · subst h0
    have hz : (convert 24 9 (.slice a 0 cap)).run Tryz.prog w = .ok (.string ByteArray.empty) w := by
      rw [run_convert_bytes_string w 24 9 5 _ 0 cap (by kernel_rfl) (by kernel_rfl) (by kernel_rfl)]
      cases a <;> simp [Conv.bytesToString, loadCells]
      all_goals rfl
    exact hz
  · obtain rfl := hs.at' (by omega)
    exact run_convert_bytes_arg w 24 5 (by kernel_rfl) (by kernel_rfl) g o m cap (nums F m) (by simp [nums]) (fun i hi => by
      rw [hs.cell i hi]
      simp [nums, hi]) 9 (by kernel_rfl)
end

section
set_option linter.unusedVariables false
set_option linter.unusedSimpArgs false

open Go.RowKit

/-- The byte at a place. -/
def bt (s : ByteArray) (i : Nat) : Nat := (s.get! i).toNat

theorem bt_lt (s : ByteArray) (i : Nat) : bt s i < 256 := UInt8.toNat_lt _

theorem bt_get (s : ByteArray) (i : Nat) (h : i < s.size) : (s[i]'h).toNat = bt s i := by
  unfold bt
  rw [← get_at s i h]
  rfl

/-- What a round of a range over s at place p comes to: the rune r, q bytes wide. -/
structure Rn (s : ByteArray) (p r q : Nat) : Prop where
  dec : Utf8.decode s p = (r, q)
  le : r ≤ 2147483647
  pos : 1 ≤ q
  fits : p + q ≤ s.size
  low : r < 128 → q = 1 ∧ r = bt s p
  high : 128 ≤ r → ∀ j, p ≤ j → j < p + q → 128 ≤ bt s j

theorem Rn.next {P : Program} {s : ByteArray} {p r q : Nat} (h : Rn s p r q) {w : World} {k : Nat} (hk : w.heap[k]? = some (.stringIter s p)) (hp : p < s.size) (ty : TypeId) :
    (Instr.next (.pointer (some ⟨k, 0, none⟩)) true ty).run P w = .ok (.tuple #[.bool true, .int .i64 (p : Int), .int .i32 (r : Int)]) (w.iterAt k s (p + q)) := by
  rw [Lib.run_next_any_at w k s p ty hk hp, h.dec]

/-- A world in which an iterator at block k, of the call's own, stands at place p. -/
structure Itr (w wr : World) (k : Nat) (s : ByteArray) (p : Nat) : Prop where
  blk : wr.heap[k]? = some (.stringIter s p)
  ge : w.heap.size ≤ k
  ext : Ext w wr

theorem Itr.step {w wr : World} {k : Nat} {s : ByteArray} {p : Nat} (h : Itr w wr k s p) (p' : Nat) : Itr w (wr.iterAt k s p') k s p' :=
  ⟨Lib.iterAt_heap wr k s p p' h.blk, h.ge, Lib.below_iterAt h.ext h.ge s p'⟩

theorem Itr.pos {w wr : World} {k : Nat} {s : ByteArray} {p : Nat} (h : Itr w wr k s p) : wr.iterPos k = p := iterPos_of h.blk

/-- What an append to a row of one's own leaves of an iterator. -/
theorem Itr.grown {w wr w1 : World} {k : Nat} {s : ByteArray} {p : Nat} (h : Itr w wr k s p) {B e size n : Nat} {v : Value} {xs : List Value} (ho : wr.ownsRow B e size v n xs) (hB : w.heap.size ≤ B) {o : Obj} (hg : (wr.alloc o).grownBy w1 v.ownBlock) : Itr w w1 k s p := by
  have hlt : k < wr.heap.size := (Array.getElem?_eq_some_iff.1 h.blk).1
  refine ⟨?_, h.ge, ?_⟩
  · rw [hg.block k (by simp; omega) ?_]
    · show (wr.heap.push o)[k]? = _
      rw [Array.getElem?_push_lt hlt, ← h.blk, Array.getElem?_eq_getElem hlt]
    · rcases ho.2 with ⟨rfl, _⟩ | ⟨g, cap, cur, rfl, hb, hg', rest⟩
      · simp [Value.ownBlock]
      · intro e
        simp only [Value.ownBlock, Option.some.injEq] at e
        subst e
        rw [h.blk] at hg'
        cases hg'
  · exact (Below.alloc h.ext (Below.size h.ext) o).grown hg (by have := Below.size h.ext; simp; omega) (fun j hj => by have := (ho.lt j hj).1; omega)

/-- Two strings are one. -/
def eqS (a b : ByteArray) : Bool := a.toList == b.toList

theorem eqS_iff (a b : ByteArray) : eqS a b = true ↔ a = b := by
  unfold eqS
  rw [beq_iff_eq, ByteArray.toList_eq, ByteArray.toList_eq]
  exact ⟨fun h => ByteArray.ext (Array.ext' h), fun h => by rw [h]⟩

theorem eqS_refl (a : ByteArray) : eqS a a = true := (eqS_iff a a).2 rfl

theorem Tryz.infoS : (Tryz.prog.info? 9).map (fun i => (i.zero, i.size, i.bytes)) = some (some (.string ⟨#[]⟩), 1, 16) := by kernel_rfl
end

section
set_option linter.unusedVariables false
set_option linter.unusedSimpArgs false
set_option maxRecDepth 100000

open Go.RowKit

/-- A list of strings in memory. -/
structure SSeg (w : World) (a : Option Addr) (b off n : Nat) (f : Nat → ByteArray) : Prop where
  at' : 0 < n → a = some ⟨b, off, none⟩
  cell : ∀ i, i < n → w.cell? ⟨b, off + i, none⟩ = some (.string (f i))

theorem SSeg.lt {w : World} {a : Option Addr} {b off n : Nat} {f : Nat → ByteArray} (h : SSeg w a b off n f) (hn : 0 < n) : b < w.heap.size := World.block_lt_of_cell? _ _ (h.cell 0 hn)

theorem SSeg.of_all {w w' : World} {a : Option Addr} {b off n : Nat} {f : Nat → ByteArray} (h : SSeg w a b off n f) (e : Ext w w') : SSeg w' a b off n f :=
  ⟨h.at', fun i hi => (Below.cell e (p := ⟨b, off + i, none⟩) (h.lt (by omega))).trans (h.cell i hi)⟩

/-- What is known of a list of strings that came in. -/
structure StsIn (w : World) (a : Option Addr) (b off n : Nat) (f : Nat → ByteArray) : Prop where
  seg : SSeg w a b off n f
  small : n ≤ 9223372036854775807
  each : ∀ i, i < n → (f i).size ≤ 9223372036854775807

section

open Go.ChangeShapes Go.WideShapes Go.ChangeAt

variable {H : Type} {enc : TypeId × Value → H} {w : World} {base : Nat} {held : Bool}

set_option maxRecDepth 100000 in
theorem open_strsC {fuel : Nat} {cs : List Value} {x : DataW H × List MemPlace} (h : DataW.trod enc Tryz.prog w base (fun _ => true) held fuel 22 cs = some x) :
    ∃ (a : Option Addr) (b off n cap : Nat) (f : Nat → ByteArray), cs = [.slice a n cap] ∧ StsIn w a b off n f := by
  rcases open_strings Tryz.underlying22 Tryz.underlying9 (by kernel_rfl) h with ⟨hcs, _⟩ | ⟨a, len, cap, ss, hcs, _, hl, hm, hz, _, hcell, hsz⟩
  · exact ⟨none, 0, 0, 0, 0, fun _ => ⟨#[]⟩, hcs, ⟨⟨fun h => absurd h (Nat.lt_irrefl _), fun i hi => absurd hi (Nat.not_lt_zero _)⟩, Nat.zero_le _, fun i hi => absurd hi (Nat.not_lt_zero _)⟩⟩
  · simp at hz
    obtain ⟨b, off, spot⟩ := a
    have hmm : len ≤ 9223372036854775807 := by unfold maxLen at hm; omega
    by_cases h0 : len = 0
    · subst h0
      exact ⟨_, 0, 0, 0, cap, fun _ => ⟨#[]⟩, hcs, ⟨⟨fun h => absurd h (Nat.lt_irrefl _), fun i hi => absurd hi (Nat.not_lt_zero _)⟩, Nat.zero_le _, fun i hi => absurd hi (Nat.not_lt_zero _)⟩⟩
    · have hspot : spot = none := by simpa [Addr.add] using World.cell?_spot (hcell 0 (by omega))
      subst hspot
      refine ⟨some ⟨b, off, none⟩, b, off, len, cap, fun i => ss.getD i ByteArray.empty, hcs, ⟨⟨fun _ => rfl, fun i hi => ?_⟩, hmm, fun i hi => ?_⟩⟩
      · have := hcell i (by omega)
        have e : (⟨b, off, none⟩ : Addr).add i = ⟨b, off + i, none⟩ := by
          by_cases h0 : i = 0
          · subst h0; simp [Addr.add]
          · simp [Addr.add, h0]
        rwa [e] at this
      · have hm2 : ss.getD i ByteArray.empty ∈ ss := by
          rw [List.getD_eq_getElem?_getD, List.getElem?_eq_getElem (show i < ss.length by omega)]
          exact List.getElem_mem _
        have := hsz _ hm2
        unfold maxLen at this
        show (ss.getD i ByteArray.empty).size ≤ _
        omega

end

set_option maxHeartbeats 800000 in
theorem szStringS_any (a : Option Addr) (b off n cap : Nat) (f : Nat → ByteArray) (l : Int) (w : World) (hs : StsIn w a b off n f) (l0 : 0 ≤ l) (l1 : l ≤ 1048576) :
    Calls Tryz.prog 16 #[.slice a n cap, .int .i64 l] w fun e w' => (∃ z : Int, e = .returned (.int .i64 z) ∧ -1 ≤ z ∧ z ≤ l ∧ (0 ≤ z → (n : Int) ≤ l ∧ ∀ i, i < n → ((f i).size : Int) ≤ l)) ∧ w' = w := by
  have hn := hs.small
  have He := hide hs.each
  have Hs := hide hs.seg
  clear hs
  by_cases h : l < n
  · have h1 : l - (n : Int) < 0 := by omega
    have h2 : -9223372036854775808 ≤ l - (n : Int) := by omega
    go_enter Tryz.func16, Tryz.ntmps16
    go_wp2
    go_ret
    exact ⟨⟨-1, rfl, by omega, by omega, fun h => by omega⟩, rfl⟩
  · have h1 : ¬ l - (n : Int) < 0 := by omega
    go_enter Tryz.func16, Tryz.ntmps16
    go_wp2
    go_loopw [1, 5] (fun c i wr => wr = w ∧ ∃ (k : Nat) (z : Int), k ≤ n ∧ i = .int .i64 k ∧ c = .int .i64 z ∧ 0 ≤ z ∧ z ≤ l ∧ ∀ j, j < k → ((f j).size : Int) ≤ l) (fun _ i _ => n - (intOf i).toNat)
    case atStart => exact ⟨rfl, 0, l - n, Nat.zero_le _, rfl, rfl, by omega, by omega, fun j hj => absurd hj (Nat.not_lt_zero _)⟩
    case round =>
      obtain ⟨rfl, k, z, hk, rfl, rfl, z0, z1, hd⟩ := hrel
      have HD := hide hd
      clear hd
      by_cases hlt : k < n
      · obtain rfl := Hs.out.at' (by omega)
        have c1 := Hs.out.cell k hlt
        have hsz := He.out k hlt
        have hkn : (k : Int) < (n : Int) := by omega
        have h3 : -9223372036854775808 ≤ z - ((f k).size : Int) := by omega
        by_cases hneg : z - ((f k).size : Int) < 0
        · go_wp2
          go_ret
          exact ⟨⟨-1, rfl, by omega, by omega, fun h => by omega⟩, rfl⟩
        · have HX : Hid (((f k).size : Int) ≤ l) := by show _ ≤ _; omega
          go_wp2
          go_roundw
          case rel => exact ⟨trivial, k + 1, _, by omega, by go_num, rfl, by omega, by omega, fun j hj => by
                        by_cases e : j = k
                        · subst e; exact HX.out
                        · exact HD.out j (by omega)⟩
          case measure => simp [intOf]; omega
      · obtain rfl : k = n := by omega
        go_wp2
        go_ret
        exact ⟨⟨z, rfl, by omega, by omega, fun _ => ⟨by omega, HD.out⟩⟩, rfl⟩

/-- What toStringS has done behind k rounds. -/
structure SCopying (w wr : World) (n k : Nat) (f : Nat → ByteArray) : Prop where
  below : Ext w wr
  size : wr.heap.size = w.heap.size + 1
  row : wr.rowIs w.heap.size 9 n (fun j => .string (if j < k then f j else ⟨#[]⟩))

theorem scopying_start (w : World) (n : Nat) (f : Nat → ByteArray) : SCopying w (w.alloc (.cells (madeCells #[.string ⟨#[]⟩] n) 9)) n 0 f :=
  ⟨Ext.alloc _ _, by simp, (World.rowIs_made w _ n 9).congr (fun j _ => by simp)⟩

theorem scopying_step {w wr : World} {n k : Nat} {f : Nat → ByteArray} (h : SCopying w wr n k f) : SCopying w (wr.setCell ⟨w.heap.size, k, none⟩ (.string (f k))) n (k + 1) f := by
  refine ⟨Below.setCell h.below (Nat.le_refl _) _, by simp [World.setCell, h.size], (h.row.set k _).congr (fun j _ => ?_)⟩
  by_cases e : j = k
  · subst e; simp
  · rw [if_neg e]
    by_cases hlt : j < k
    · rw [if_pos hlt, if_pos (by omega)]
    · rw [if_neg hlt, if_neg (by omega)]

/-- A copied list of strings. -/
structure SCopy (w w' : World) (n : Nat) (f : Nat → ByteArray) : Prop where
  below : Ext w w'
  size : w'.heap.size = w.heap.size + 1
  row : w'.rowIs w.heap.size 9 n (fun j => .string (f j))

theorem SCopy.seg {w w' : World} {n : Nat} {f : Nat → ByteArray} (h : SCopy w w' n f) : SSeg w' (some ⟨w.heap.size, 0, none⟩) w.heap.size 0 n f := ⟨fun _ => rfl, fun i hi => by rw [Nat.zero_add]; exact h.row.cell hi⟩

set_option maxHeartbeats 800000 in
theorem toStringS_any (a : Option Addr) (b off n cap : Nat) (f : Nat → ByteArray) (w : World) (hs : SSeg w a b off n f) (hn : n ≤ 1048576) :
    Calls Tryz.prog 22 #[.slice a n cap] w fun e w' => e = .returned (.slice (some ⟨w.heap.size, 0, none⟩) n n) ∧ SCopy w w' n f := by
  have hmk := run_make_row' (P := Tryz.prog) 22 9 (.string ⟨#[]⟩) 16 Tryz.underlying22 Tryz.infoS rfl .i64 .i64 n (by omega) (by omega)
  go_enter Tryz.func22, Tryz.ntmps22
  go_wp2
  clear hmk
  go_loopw [4] (fun i wr => ∃ k : Nat, k ≤ n ∧ i = .int .i64 k ∧ SCopying w wr n k f) (fun i _ => n - (intOf i).toNat)
  case atStart => exact ⟨0, Nat.zero_le _, rfl, scopying_start w n f⟩
  case round =>
    obtain ⟨k, hk, rfl, hI⟩ := hrel
    by_cases hlt : k < n
    · obtain rfl := hs.at' (by omega)
      have hc : wr.cell? ⟨b, off + k, none⟩ = some (.string (f k)) := (Below.cell hI.below (p := ⟨b, off + k, none⟩) (hs.lt (by omega))).trans (hs.cell k hlt)
      have hd : wr.cell? ⟨w.heap.size, k, none⟩ = some (.string ⟨#[]⟩) := by simpa using hI.row.cell hlt
      have hf : wr.frozen? ⟨w.heap.size, k, none⟩ = false := hI.row.frozen k
      have hkn : (k : Int) < (n : Int) := by omega
      go_wp2
      go_roundw
      case rel => exact ⟨k + 1, by omega, by go_num, scopying_step hI⟩
      case measure => simp [intOf]; omega
    · obtain rfl : k = n := by omega
      go_wp2
      go_ret
      exact ⟨rfl, ⟨hI.below, hI.size, hI.row.congr (fun j hj => by rw [if_pos hj])⟩⟩

set_option maxHeartbeats 800000 in
theorem eqStringS_same (a : Option Addr) (b off n cap : Nat) (f : Nat → ByteArray) (a2 : Option Addr) (b2 off2 cap2 : Nat) (w : World) (hs : SSeg w a b off n f) (hs2 : SSeg w a2 b2 off2 n f) (hn : n ≤ 1048576) :
    Calls Tryz.prog 28 #[.slice a n cap, .slice a2 n cap2] w fun e w' => e = .returned (.bool true) ∧ Ext w w' := by
  go_enter Tryz.func28, Tryz.ntmps28
  go_wp2
  go_loopw [5] (fun i wr => ∃ k : Nat, k ≤ n ∧ i = .int .i64 k ∧ Ext w wr) (fun i _ => n - (intOf i).toNat)
  case atStart => exact ⟨0, Nat.zero_le _, rfl, Ext.refl _⟩
  case round =>
    obtain ⟨k, hk, rfl, hE⟩ := hrel
    by_cases hlt : k < n
    · obtain rfl := hs.at' (by omega)
      obtain rfl := hs2.at' (by omega)
      have c1 := (hs.of_all hE).cell k hlt
      have c2 := (hs2.of_all hE).cell k hlt
      have hkn : (k : Int) < (n : Int) := by omega
      have hq : ((f k).toList == (f k).toList) = true := eqS_refl (f k)
      have HE := hide hE
      clear hs hs2 hE
      go_wp2
      go_quiet (fail)
      go_wp2
      go_roundw
      case rel => exact ⟨k + 1, by omega, by go_num, below_drewN HE.out _⟩
      case measure => simp [intOf]; omega
    · obtain rfl : k = n := by omega
      go_wp2
      go_ret
      exact ⟨rfl, hE⟩
end

end Go.Proofs.YtgdjaapjdmancaaGreatDoor
