/- Walks: ErrText of both. -/
import Derived.Test.YtjpdllhhganbpaaBase
import Derived.Test.YtjpdllhhganbpaaHeads
import Derived.Test.YtjpdllhhganbpaaChecked
import Derived.Carry
import Derived.RowKit
import Derived.Handy
import Derived.MapKept
import Derived.Laws.EntriesVeiled
namespace Go.Proofs.Ytjpdllhhganbpaa
set_option linter.unusedVariables false
set_option linter.unusedSimpArgs false
open Go.RowKit

theorem push_setE {α : Type} (a : Array α) (x y : α) : (a.push x).setIfInBounds a.size y = a.push y := by
  apply Array.ext
  · simp
  · intro i h1 h2
    rw [Array.getElem_setIfInBounds (by simpa using h1)]
    by_cases e : a.size = i
    · subst e; simp
    · rw [if_neg e]
      have : i < a.size := by simp at h2; omega
      rw [Array.getElem_push_lt this, Array.getElem_push_lt this]

theorem set_allocE (w : World) (o o' : Obj) : ({ w.alloc o with heap := (w.alloc o).heap.setIfInBounds w.heap.size o' } : World) = w.alloc o' := by
  show ({ w with heap := _ } : World) = { w with heap := _ }
  congr 1
  exact push_setE _ _ _

/-- A new key at the end of a map that was just made. -/
theorem run_mapPushE {P : Program} (w : World) (mty kt et : TypeId) (es : Array MapEntry) (clock : Nat) (x : Int) (v : Value) (hm : P.underlying mty = some (.map kt et)) (hk : P.underlying kt = some (.int .i64))
    (hf : Instr.findNow (.int .i64) (.int .i64 x) es.toList 0 = some none) :
    (Instr.mapUpdate mty (.map (some w.heap.size)) (.int .i64 x) v).run P (w.alloc (.map es clock)) = .ok () (w.alloc (.map (es.push { key := .int .i64 x, val := v, born := clock }) (clock + 1))) := by
  have hb : (w.alloc (.map es clock)).heap[w.heap.size]? = some (.map es clock) := (MapKept.heap_alloc w _).1
  have hc : (Instr.checkKey false 10000 kt (.int .i64 x)).run P (w.alloc (.map es clock)) = .ok () (w.alloc (.map es clock)) := MapKept.run_checkKey (k := .int .i64 x) hk (by simp [MapKept.IsKey]) false 9999
  simp [Instr.mapUpdate, run_underlying hm, MapKept.run_getObj_map hb, hc, MapKept.run_findKey hk hf, MapKept.run_setObj_map _ hb, Result.andThen]
  exact set_allocE _ _ _

/-- A key that a map has, and one that it has not. -/
theorem run_mapGetE {P : Program} (w : World) (r : Nat) (mty kt et : TypeId) (es : Array MapEntry) (clock : Nat) (x : Int) (i : Nat) (v : Value) (hm : P.underlying mty = some (.map kt et)) (hk : P.underlying kt = some (.int .i64))
    (hb : w.heap[r]? = some (.map es clock)) (hf : Instr.findNow (.int .i64) (.int .i64 x) es.toList 0 = some (some (i, v))) :
    (Instr.lookup mty (.map (some r)) (.int .i64 x) false).run P w = .ok v w := by
  have hc : ∀ e, (Instr.checkKey e 10000 kt (.int .i64 x)).run P w = .ok () w := fun e => MapKept.run_checkKey (k := .int .i64 x) hk (by simp [MapKept.IsKey]) e 9999
  simp [Instr.lookup, run_underlying hm, MapKept.run_getObj_map hb, hc, MapKept.run_findKey hk hf, Result.andThen]
theorem run_mapMissE {P : Program} (w : World) (r : Nat) (mty kt et : TypeId) (es : Array MapEntry) (clock : Nat) (x : Int) (v : Value) (hm : P.underlying mty = some (.map kt et)) (hk : P.underlying kt = some (.int .i64))
    (hb : w.heap[r]? = some (.map es clock)) (hf : Instr.findNow (.int .i64) (.int .i64 x) es.toList 0 = some none) (hz : (zeroValue et).run P w = .ok v w) :
    (Instr.lookup mty (.map (some r)) (.int .i64 x) false).run P w = .ok v w := by
  have hc : ∀ e, (Instr.checkKey e 10000 kt (.int .i64 x)).run P w = .ok () w := fun e => MapKept.run_checkKey (k := .int .i64 x) hk (by simp [MapKept.IsKey]) e 9999
  simp [Instr.lookup, run_underlying hm, MapKept.run_getObj_map hb, hc, MapKept.run_findKey hk hf, Result.andThen, hz]

/-- A key taken out of the newest map. -/
theorem run_mapDropE {P : Program} (w : World) (mty kt et ty : TypeId) (es : Array MapEntry) (clock : Nat) (x : Int) (a : Option (Nat × Value)) (hm : P.underlying mty = some (.map kt et)) (hk : P.underlying kt = some (.int .i64))
    (hf : Instr.findNow (.int .i64) (.int .i64 x) es.toList 0 = some a) :
    ∃ es', (Builtin.delete_ #[mty, kt] ty #[.map (some w.heap.size), .int .i64 x]).run P (w.alloc (.map es clock)) = .ok (.tuple #[]) (w.alloc (.map es' clock)) := by
  have hb : (w.alloc (.map es clock)).heap[w.heap.size]? = some (.map es clock) := (MapKept.heap_alloc w _).1
  have hc : ∀ e, (Instr.checkKey e 10000 kt (.int .i64 x)).run P (w.alloc (.map es clock)) = .ok () (w.alloc (.map es clock)) := fun e => MapKept.run_checkKey (k := .int .i64 x) hk (by simp [MapKept.IsKey]) e 9999
  cases a with
  | none =>
    refine ⟨es, ?_⟩
    simp [Builtin.delete_, run_underlying hm, MapKept.run_getObj_map hb, hc, MapKept.run_findKey hk hf, MapKept.run_setObj_map _ hb, Result.andThen]
    exact set_allocE _ _ _
  | some p =>
    obtain ⟨i, v⟩ := p
    refine ⟨es.eraseIdxIfInBounds i, ?_⟩
    simp [Builtin.delete_, run_underlying hm, MapKept.run_getObj_map hb, hc, MapKept.run_findKey hk hf, MapKept.run_setObj_map _ hb, Result.andThen]
    exact set_allocE _ _ _

/-- The texts, by their codes. -/
def etS (n : Nat) : ByteArray := match n with
  | 0 => ⟨#[118, 97, 108, 105, 100]⟩ | 1 => ⟨#[108, 105, 109, 105, 116, 115]⟩ | 2 => ⟨#[112, 97, 114, 115, 101]⟩ | 3 => ⟨#[112, 97, 116, 104]⟩
  | 4 => ⟨#[104, 111, 115, 116]⟩ | 5 => ⟨#[118, 111, 105, 100]⟩ | 6 => ⟨#[108, 105, 110, 116]⟩ | _ => ⟨#[]⟩
def etV (x : Int) : ByteArray := if 0 ≤ x ∧ x ≤ 6 then etS x.toNat else ⟨#[]⟩
def etE (n : Nat) : MapEntry := { key := .int .i64 (n : Int), val := .agg #[.string (etS n)], born := n }
def etM : Nat → Array MapEntry
  | 0 => #[]
  | n + 1 => (etM n).push (etE n)
theorem etM7 : etM 7 = #[etE 0, etE 1, etE 2, etE 3, etE 4, etE 5, etE 6] := rfl

theorem et_miss (x : Int) (h : ¬ (0 ≤ x ∧ x ≤ 6)) : Instr.findNow (.int .i64) (.int .i64 x) (etM 7).toList 0 = some none := by
  have h0 : (x == 0) = false := by simp; omega
  have h1 : (x == 1) = false := by simp; omega
  have h2 : (x == 2) = false := by simp; omega
  have h3 : (x == 3) = false := by simp; omega
  have h4 : (x == 4) = false := by simp; omega
  have h5 : (x == 5) = false := by simp; omega
  have h6 : (x == 6) = false := by simp; omega
  rw [etM7]
  simp [Instr.findNow, Instr.sameNow, etE, h0, h1, h2, h3, h4, h5, h6]

set_option maxHeartbeats 800000 in
theorem newErrTexts_any (w : World) : Calls Try.prog 40 #[] w fun e w' => e = .returned (.map (some w.heap.size)) ∧ w' = w.alloc (.map (etM 7) 7) := by
  have hmm := run_makeMap (P := Try.prog) 59 w
  have HP : ∀ (n m : Nat) (x : Int), (n : Int) = x → n + 1 = m → Instr.findNow (.int .i64) (.int .i64 (n : Int)) (etM n).toList 0 = some none → (Instr.mapUpdate 59 (.map (some w.heap.size)) (.int .i64 x) (.agg #[.string (etS n)])).run Try.prog (w.alloc (.map (etM n) n)) = .ok () (w.alloc (.map (etM m) m)) := by
    rintro n m x rfl rfl h
    exact run_mapPushE (P := Try.prog) w 59 3 70 (etM n) n n _ Try.underlying59 Try.underlying3 h
  have h0 := HP 0 1 0 rfl rfl rfl
  have h1 := HP 1 2 1 rfl rfl rfl
  have h2 := HP 2 3 2 rfl rfl rfl
  have h3 := HP 3 4 3 rfl rfl rfl
  have h4 := HP 4 5 4 rfl rfl rfl
  have h5 := HP 5 6 5 rfl rfl rfl
  have h6 := HP 6 7 6 rfl rfl rfl
  have hM : (#[] : Array MapEntry) = etM 0 := rfl
  rw [hM] at hmm
  clear HP hM
  simp only [etS] at h0 h1 h2 h3 h4 h5 h6
  generalize etM 0 = M0 at *
  generalize etM 1 = M1 at *
  generalize etM 2 = M2 at *
  generalize etM 3 = M3 at *
  generalize etM 4 = M4 at *
  generalize etM 5 = M5 at *
  generalize etM 6 = M6 at *
  generalize etM 7 = M7 at *
  go_enter Try.func40, Try.ntmps40
  go_wp2
  go_ret
  exact ⟨rfl, rfl⟩

set_option maxHeartbeats 800000 in
theorem taken_any (x : Int) (w : World) : Calls Try.prog 41 #[.map (some w.heap.size), .int .i64 x] (w.alloc (.map (etM 7) 7)) fun e w' => e = .returned (.string (etV x)) ∧ ∃ es, w' = w.alloc (.map es 7) := by
  have hb : (w.alloc (.map (etM 7) 7)).heap[w.heap.size]? = some (.map (etM 7) 7) := (MapKept.heap_alloc w _).1
  have key : ∃ a, Instr.findNow (.int .i64) (.int .i64 x) (etM 7).toList 0 = some a ∧ (Instr.lookup 59 (.map (some w.heap.size)) (.int .i64 x) false).run Try.prog (w.alloc (.map (etM 7) 7)) = .ok (.agg #[.string (etV x)]) (w.alloc (.map (etM 7) 7)) := by
    by_cases h : 0 ≤ x ∧ x ≤ 6
    · have e : etV x = etS x.toNat := by unfold etV; rw [if_pos h]
      obtain ⟨n, rfl⟩ := Int.eq_ofNat_of_zero_le h.1
      rw [e, Int.toNat_natCast]
      have hf : Instr.findNow (.int .i64) (.int .i64 (n : Int)) (etM 7).toList 0 = some (some (n, .agg #[.string (etS n)])) := by
        have : n = 0 ∨ n = 1 ∨ n = 2 ∨ n = 3 ∨ n = 4 ∨ n = 5 ∨ n = 6 := by omega
        rcases this with rfl | rfl | rfl | rfl | rfl | rfl | rfl <;> rfl
      exact ⟨_, hf, run_mapGetE _ _ _ 3 70 _ _ _ _ _ Try.underlying59 Try.underlying3 hb hf⟩
    · have e : etV x = ⟨#[]⟩ := by unfold etV; rw [if_neg h]
      rw [e]
      exact ⟨_, et_miss x h, run_mapMissE _ _ _ 3 70 _ _ _ _ Try.underlying59 Try.underlying3 hb (et_miss x h) rfl⟩
  obtain ⟨a, hf, hl⟩ := key
  obtain ⟨es, hd⟩ : ∃ es, ∀ ty, (Builtin.delete_ #[59, 3] ty #[.map (some w.heap.size), .int .i64 x]).run Try.prog (w.alloc (.map (etM 7) 7)) = .ok (.tuple #[]) (w.alloc (.map es 7)) := by
    obtain ⟨es, h⟩ := run_mapDropE (P := Try.prog) w 59 3 70 0 (etM 7) 7 x a Try.underlying59 Try.underlying3 hf
    exact ⟨es, fun ty => h⟩
  clear hf hb
  generalize etV x = V at *
  generalize etM 7 = M at *
  have hfd : ∀ w, (Instr.field 70 (.agg #[.string V]) 0).run Try.prog w = .ok (.string V) w := fun w => by kernel_rfl
  go_enter Try.func41, Try.ntmps41
  go_wp2
  go_ret
  exact ⟨rfl, es, rfl⟩

theorem ext_allocE (w : World) (o : Obj) : Ext w (w.alloc o) := (Below.refl _ _).alloc (Nat.le_refl _) _

set_option maxHeartbeats 800000 in
theorem implErrText_any (x : Int) (w : World) : Calls Try.prog 18 #[.int .i64 x] w fun e w' => e = .returned (.string (etV x)) ∧ Ext w w' := by
  go_enter Try.func18, Try.ntmps18
  go_wp2_with (first | (go_at_call 40; refine (newErrTexts_any _).mono ?_; rintro e w3 ⟨rfl, rfl⟩) | (go_at_call 41; refine (taken_any x _).mono ?_; rintro e w3 ⟨rfl, es, rfl⟩))
  go_ret
  exact ⟨rfl, ext_allocE _ _⟩

theorem l1InE_any (x a b : Int) (w : World) : Calls Try.prog 39 #[.int .i64 x, .int .i64 a, .int .i64 b] w fun e w' => e = .returned (.bool (decide (a ≤ x) && decide (x ≤ b))) ∧ w' = w := by
  by_cases h1 : a ≤ x
  · by_cases h2 : x ≤ b
    · go_enter Try.func39, Try.ntmps39
      go_wp2
      go_ret
      exact ⟨ret_bool (by simp [h1, h2]), rfl⟩
    · go_enter Try.func39, Try.ntmps39
      go_wp2
      go_ret
      exact ⟨ret_bool (by simp [h1, h2]), rfl⟩
  · have HF : Hid (decide (a ≤ x) = false) := decide_eq_false h1
    go_enter Try.func39, Try.ntmps39
    go_wp2
    go_ret
    exact ⟨ret_bool (by rw [HF.out, Bool.false_and]), rfl⟩

set_option maxHeartbeats 1600000 in
theorem specErrText_any (x : Int) (w : World) : Calls Try.prog 17 #[.int .i64 x] w fun e w' => e = .returned (.string (etV x)) ∧ Ext w w' := by
  have HI := hide (l1InE_any x 0 6 w)
  have hb : (decide (0 ≤ x) && decide (x ≤ 6)) = decide (0 ≤ x ∧ x ≤ 6) := by simp
  rw [hb] at HI
  clear hb
  by_cases h : 0 ≤ x ∧ x ≤ 6
  · have e : etV x = etS x.toNat := by unfold etV; rw [if_pos h]
    obtain ⟨n, rfl⟩ := Int.eq_ofNat_of_zero_le h.1
    rw [Int.toNat_natCast] at e
    rw [e]
    rw [decide_eq_true h] at HI
    have : n = 0 ∨ n = 1 ∨ n = 2 ∨ n = 3 ∨ n = 4 ∨ n = 5 ∨ n = 6 := by omega
    clear e h
    rcases this with rfl | rfl | rfl | rfl | rfl | rfl | rfl
    all_goals
      go_enter Try.func17, Try.ntmps17
      go_wp2_with (go_at_call 39; refine HI.out.mono ?_; rintro e w3 ⟨rfl, hw⟩; obtain rfl := hw.symm)
      go_ret
      exact ⟨rfl, ext_allocE _ _⟩
  · have e : etV x = ⟨#[]⟩ := by unfold etV; rw [if_neg h]
    rw [e]
    rw [decide_eq_false h] at HI
    go_enter Try.func17, Try.ntmps17
    go_wp2_with (go_at_call 39; refine HI.out.mono ?_; rintro e w3 ⟨rfl, hw⟩; obtain rfl := hw.symm)
    go_ret
    exact ⟨rfl, Ext.refl _⟩

end Go.Proofs.Ytjpdllhhganbpaa
