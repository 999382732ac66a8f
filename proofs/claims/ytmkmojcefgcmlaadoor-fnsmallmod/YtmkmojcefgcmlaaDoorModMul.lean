/- Walks: ModMul, the model's and the program's: what is left of a product; the program's map of operations. -/
import Derived.Test.YtmkmojcefgcmlaaDoorNatDiv
import Derived.Test.YtmkmojcefgcmlaaDoorMuls2
import Derived.MapKept
import Derived.Laws.EntriesVeiled
namespace Go.Proofs.YtmkmojcefgcmlaaDoor
set_option linter.unusedVariables false
open Go.RowKit

/-- The call hands back the natural of value x, in new memory. -/
def GivesOne (w : World) (x : Int) (e : Ending) (w' : World) : Prop :=
  ∃ a g cap n f, e = .returned (.slice a n cap) ∧ n ≤ 1048576 ∧ Canon n f ∧ val f n = x ∧ w.heap.size ≤ g ∧ Own w' a g 0 n f ∧ Below w.heap.size w w'

/-- A canonical list of value below that of another is no longer. -/
theorem canon_short {f g : Nat → Int} {n m : Nat} (hf : Canon n f) (hg : Canon m g) (h : val f n ≤ val g m) : n ≤ m := by
  by_cases e : n ≤ m
  · exact e
  · have := canon_lt hg.digs hf (by omega); omega

theorem prod_len {f g h : Nat → Int} {n m k : Nat} (hf : Digs f n) (hg : Digs g m) (hh : Canon k h) (e : val h k = val f n * val g m) : k ≤ n + m := by
  have b1 := val_bd hf
  have b2 := val_bd hg
  have p : val f n * val g m < pw n * pw m := by
    have h1 : val f n * val g m ≤ val f n * pw m := Int.mul_le_mul_of_nonneg_left (Int.le_of_lt b2.2) b1.1
    have h2 : val f n * pw m < pw n * pw m := Int.mul_lt_mul_of_pos_right b1.2 (pw_pos m)
    omega
  rw [← pw_add] at p
  exact (canon_len hh (n + m)).2 (by rw [e]; exact p)

set_option maxHeartbeats 400000 in
theorem rest_any (a3 : Option Addr) (b3 off3 n3 cap3 : Nat) (h : Nat → Int) (a : Option Addr) (b off n cap : Nat) (f : Nat → Int) (w : World)
    (hs3 : Seg w a3 b3 off3 n3 h) (hs : Seg w a b off n f) (hn3 : n3 ≤ 4000) (hn : n ≤ 4000) (hh : Canon n3 h) (h0 : 0 < n3) (hf : Canon n f) :
    Calls Tryd.prog 39 #[.slice a3 n3 cap3, .slice a n cap] w fun e w' => GivesOne w (val f n % val h n3) e w' := by
  go_enter Tryd.func39, Tryd.ntmps39
  go_wp2_with fail
  refine (divideDigits_any a b off n cap f a3 b3 off3 n3 cap3 h _ hs hs3 hn hn3 h0 hf hh).mono ?_
  rintro e w2 ⟨a4, g4, cap4, n4, f4, a5, g5, cap5, n5, f5, rfl, k1, k2, k3, k4, k5, k6, k7, k8, k9, k10, k11, k12⟩
  have K6 := hide k6
  clear k4 k6
  go_wp2
  go_ret
  exact ⟨a5, g5, cap5, n5, f5, rfl, k2, k5, K6.out, k8, k11, k12⟩

set_option maxHeartbeats 400000 in
theorem times_any (a3 : Option Addr) (b3 off3 n3 cap3 : Nat) (h : Nat → Int) (a : Option Addr) (b off n cap : Nat) (f : Nat → Int) (a2 : Option Addr) (b2 off2 n2 cap2 : Nat) (g : Nat → Int) (w : World)
    (hs3 : Seg w a3 b3 off3 n3 h) (hs : Seg w a b off n f) (hs2 : Seg w a2 b2 off2 n2 g) (hn : n ≤ 1000) (hn2 : n2 ≤ 1000) (hn3 : n3 ≤ 1000) (hf : Canon n f) (hg : Canon n2 g) (hh : Canon n3 h) (h0 : 0 < n3) :
    Calls Tryd.prog 34 #[.slice a3 n3 cap3, .slice a n cap, .slice a2 n2 cap2] w fun e w' => GivesQ w (some (val f n * val g n2 % val h n3)) e w' := by
  go_enter Tryd.func34, Tryd.ntmps34
  go_wp2_with fail
  refine (digitsProduct_any a b off n cap f a2 b2 off2 n2 cap2 g _ hs hs2 (by omega) (by omega) hf.digs hg.digs).mono ?_
  rintro e w1 ⟨g1, cap1, m, f1, rfl, hm, hc, hC, hV, hg1, hO1, hB1⟩
  have hl := prod_len hf.digs hg.digs hC hV
  have HV := hide hV
  clear hV
  go_wp2_with fail
  refine (rest_any a3 b3 off3 n3 cap3 h _ g1 0 m cap1 f1 _ (hs3.of_all hB1) hO1.toSeg (by omega) (by omega) hh h0 hC).mono ?_
  rintro e w2 ⟨a5, g5, cap5, n5, f5, rfl, k2, k5, k6, k8, k11, k12⟩
  have B2 := hB1.trans (k12.mono hB1.size)
  have ge := hB1.size
  have K6 := hide k6
  clear k6
  go_wp2
  go_ret2
  exact ⟨a5, g5, cap5, n5, f5, true, rfl, k2, ⟨k5, by rw [K6.out, HV.out], rfl⟩, by omega, k11, B2⟩

theorem push_set {α : Type} (a : Array α) (x y : α) : (a.push x).setIfInBounds a.size y = a.push y := by
  apply Array.ext
  · simp
  · intro i h1 h2
    rw [Array.getElem_setIfInBounds (by simpa using h1)]
    by_cases e : a.size = i
    · subst e; simp
    · rw [if_neg e]
      have : i < a.size := by simp at h2; omega
      rw [Array.getElem_push_lt this, Array.getElem_push_lt this]

/-- A new key at the end of a map that was just made. -/
theorem run_mapPush {P : Program} (w : World) (mty kt et : TypeId) (es : Array MapEntry) (clock : Nat) (x : Int) (v : Value) (hm : P.underlying mty = some (.map kt et)) (hk : P.underlying kt = some (.int .i64))
    (hf : Instr.findNow (.int .i64) (.int .i64 x) es.toList 0 = some none) :
    (Instr.mapUpdate mty (.map (some w.heap.size)) (.int .i64 x) v).run P (w.alloc (.map es clock)) = .ok () (w.alloc (.map (es.push { key := .int .i64 x, val := v, born := clock }) (clock + 1))) := by
  have hb : (w.alloc (.map es clock)).heap[w.heap.size]? = some (.map es clock) := (MapKept.heap_alloc w _).1
  have hc : (Instr.checkKey false 10000 kt (.int .i64 x)).run P (w.alloc (.map es clock)) = .ok () (w.alloc (.map es clock)) := MapKept.run_checkKey (k := .int .i64 x) hk (by simp [MapKept.IsKey]) false 9999
  have he : { w.alloc (.map es clock) with heap := (w.alloc (.map es clock)).heap.setIfInBounds w.heap.size (.map (es.push { key := .int .i64 x, val := v, born := clock }) (clock + 1)) } = w.alloc (.map (es.push { key := .int .i64 x, val := v, born := clock }) (clock + 1)) := by
    show ({ w with heap := _ } : World) = { w with heap := _ }
    congr 1
    exact push_set _ _ _
  simp [Instr.mapUpdate, run_underlying hm, MapKept.run_getObj_map hb, hc, MapKept.run_findKey hk hf, MapKept.run_setObj_map _ hb, Result.andThen]
  exact he

/-- A key that a map has. -/
theorem run_mapGet {P : Program} (w : World) (r : Nat) (mty kt et : TypeId) (es : Array MapEntry) (clock : Nat) (x : Int) (i : Nat) (v : Value) (hm : P.underlying mty = some (.map kt et)) (hk : P.underlying kt = some (.int .i64))
    (hb : w.heap[r]? = some (.map es clock)) (hf : Instr.findNow (.int .i64) (.int .i64 x) es.toList 0 = some (some (i, v))) :
    (Instr.lookup mty (.map (some r)) (.int .i64 x) false).run P w = .ok v w := by
  have hc : ∀ e, (Instr.checkKey e 10000 kt (.int .i64 x)).run P w = .ok () w := fun e => MapKept.run_checkKey (k := .int .i64 x) hk (by simp [MapKept.IsKey]) e 9999
  simp [Instr.lookup, run_underlying hm, MapKept.run_getObj_map hb, hc, MapKept.run_findKey hk hf, Result.andThen]

/-- The program's operations, by their kind. -/
def opsMap : Array MapEntry := #[{ key := .int .i64 0, val := .func (.func 34) #[] #[], born := 0 }, { key := .int .i64 1, val := .func (.func 35) #[] #[], born := 1 }, { key := .int .i64 2, val := .func (.func 36) #[] #[], born := 2 }]

set_option maxHeartbeats 400000 in
theorem modOperations_any (w : World) : Calls Tryd.prog 28 #[] w fun e w' => e = .returned (.map (some w.heap.size)) ∧ w' = w.alloc (.map opsMap 3) := by
  have hmm := run_makeMap (P := Tryd.prog) 53 w
  have h0 := run_mapPush (P := Tryd.prog) w 53 40 52 #[] 0 0 (.func (.func 34) #[] #[]) Tryd.underlying53 Tryd.underlying40 rfl
  have h1 := run_mapPush (P := Tryd.prog) w 53 40 52 #[{ key := .int .i64 0, val := .func (.func 34) #[] #[], born := 0 }] 1 1 (.func (.func 35) #[] #[]) Tryd.underlying53 Tryd.underlying40 rfl
  have h2 := run_mapPush (P := Tryd.prog) w 53 40 52 #[{ key := .int .i64 0, val := .func (.func 34) #[] #[], born := 0 }, { key := .int .i64 1, val := .func (.func 35) #[] #[], born := 1 }] 2 2 (.func (.func 36) #[] #[]) Tryd.underlying53 Tryd.underlying40 rfl
  go_enter Tryd.func28, Tryd.ntmps28
  go_wp2
  go_ret
  exact ⟨rfl, rfl⟩

/-- Three naturals, the last not 0. -/
def threeB (n : Nat) (f : Nat → Int) (n2 : Nat) (g : Nat → Int) (n3 : Nat) (h : Nat → Int) : Bool := natOk n f && natOk n2 g && natOk n3 h && !(n3 == 0)

theorem threeB_iff {n : Nat} {f : Nat → Int} {n2 : Nat} {g : Nat → Int} {n3 : Nat} {h : Nat → Int} (k : threeB n f n2 g n3 h = true) :
    Canon n f ∧ n ≤ 64 ∧ Canon n2 g ∧ n2 ≤ 64 ∧ Canon n3 h ∧ n3 ≤ 64 ∧ 0 < n3 ∧ natOk n f = true ∧ natOk n2 g = true ∧ natOk n3 h = true := by
  simp only [threeB, Bool.and_eq_true, Bool.not_eq_true', beq_eq_false_iff_ne] at k
  obtain ⟨⟨⟨k1, k2⟩, k3⟩, k4⟩ := k
  have a1 := (natOk_iff n f).1 k1
  have a2 := (natOk_iff n2 g).1 k2
  have a3 := (natOk_iff n3 h).1 k3
  exact ⟨⟨a1.1, a1.2.2⟩, a1.2.1, ⟨a2.1, a2.2.2⟩, a2.2.1, ⟨a3.1, a3.2.2⟩, a3.2.1, by omega, k1, k2, k3⟩

/-- The program's own test of the three. -/
def badB (n : Nat) (f : Nat → Int) (n2 : Nat) (g : Nat → Int) (n3 : Nat) (h : Nat → Int) : Bool := !threeB n f n2 g n3 h

end Go.Proofs.YtmkmojcefgcmlaaDoor
