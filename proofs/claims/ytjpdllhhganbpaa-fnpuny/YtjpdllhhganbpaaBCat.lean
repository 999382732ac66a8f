/- Walks: lists of bytes put behind each other: slices.Clone, slices.Grow, slices.Concat, appendWord. -/
import Derived.Test.YtjpdllhhganbpaaBLists
import Derived.Test.YtjpdllhhganbpaaBlk
import Derived.Lib.AppendZerosOnto
import Derived.Laws.OwnMore
namespace Go.Proofs.Ytjpdllhhganbpaa
set_option linter.unusedVariables false
set_option linter.unusedSimpArgs false
open Go.RowKit

theorem byts_one (f : Nat → Int) (n : Nat) : ∀ u ∈ byts f n, u.oneCell' = true := by
  intro u hu
  obtain ⟨i, -, rfl⟩ := List.mem_map.1 hu
  rfl

theorem byts_congr {f g : Nat → Int} {n : Nat} (h : ∀ i, i < n → f i = g i) : byts f n = byts g n := by
  unfold byts
  refine List.map_congr_left (fun i hi => ?_)
  rw [h i (List.mem_range.1 hi)]

/-- One list behind the other. -/
def catF (f : Nat → Int) (n : Nat) (g : Nat → Int) (i : Nat) : Int := if i < n then f i else g (i - n)

theorem byts_append (f : Nat → Int) (n : Nat) (g : Nat → Int) (m : Nat) : byts f n ++ byts g m = byts (catF f n g) (n + m) := by
  induction m with
  | zero => rw [Nat.add_zero, show byts g 0 = [] from rfl, List.append_nil]; exact byts_congr (fun i hi => by rw [catF, if_pos hi])
  | succ m ih =>
    rw [byts_succ, ← List.append_assoc, ih, ← Nat.add_assoc, byts_succ]
    congr 3
    rw [catF, if_neg (by omega)]
    congr 1
    omega

theorem run_append_nothing {P : Program} {w : World} (base : Nat) (t ty e : TypeId) (i : TypeInfo) (size : Nat) (ht : P.underlying t = some (.slice e)) (hi : P.info? e = some i)
    (v : Value) (n c : Nat) (xs : List Value) (hown : w.ownsRow base e size v n xs) :
    (Builtin.append_ #[t, t] ty #[v, .slice none 0 c]).run P w = .ok v w := by
  rcases hown.2 with ⟨rfl, rfl⟩ | ⟨g, cap, cur, rfl, _, _, hnc, _⟩
  · simp [Builtin.append_, run_underlying ht, sizeOf, typeInfo, hi, Builtin.lenOf, Builtin.firstCells]
  · simp [Builtin.append_, run_underlying ht, sizeOf, typeInfo, hi, Builtin.lenOf, Builtin.firstCells, hnc, storeCells]

/-- An append of bytes, whatever slice they are. -/
theorem wp_append_bs {o : Oper} {a0 : Act} {K : Act → World → Prop} {Q : Exit → Act → World → Prop} {w : World} (s x : Operand)
    (ho : o.op = .call { callee := .builtin .append, args := #[s, x], argTypes := #[28, 28] })
    (base : Nat) (v : Value) (n : Nat) (xs : List Value) (hs : a0.eval s = v) (hown : w.ownsRow base 5 1 v n xs)
    (a : Option Addr) (b off m c : Nat) (f : Nat → Int) (hx : a0.eval x = .slice a m c) (hB : BSeg w a b off m f) (hlen : n + m ≤ 1099511627776) (hbase : base ≤ w.heap.size)
    (h : ∀ v' w', w'.ownsRow base 5 1 v' (n + m) (xs ++ byts f m) → Below base w w' → K (a0.put o.dst v') w') : o.wp Try.prog a0 w K Q := by
  obtain ⟨i0, hi, hz0, hz1, hz2⟩ := info_parts Try.info5
  have hml : n + m ≤ maxLen := by unfold maxLen; omega
  cases a with
  | none =>
    have hm : m = 0 := by
      cases m with
      | zero => rfl
      | succ m => have := hB.at' (Nat.succ_pos _); cases this
    subst hm
    have hr := run_append_nothing (P := Try.prog) base 28 o.type 5 i0 1 Try.underlying28 hi v n c xs hown
    unfold Oper.wp
    simp [execOp, ho, resolve, invoke, builtin, hs, hx, hr, Result.andThen]
    exact h v w (by rw [show byts f 0 = [] from rfl, List.append_nil]; exact hown) (Below.refl _ _)
  | some ad =>
    refine wp_append_own w s x 28 ho base 5 i0 (.int .u8 0) 1 1 Try.underlying28 hi hz0 hz1 hz2 rfl (by decide) v n xs hs hown ad m c (byts f m) hx (by rw [byts_length, Nat.mul_one]) ?_ (byts_one f m) hml (by omega) hbase ?_
    · intro j u hj
      have hjm : j < m := by have := (List.getElem?_eq_some_iff.1 hj).1; rwa [byts_length] at this
      have := hB.at' (by omega)
      obtain rfl := Option.some.inj this
      rw [show (byts f m)[j]? = some (.int .u8 (f j)) by simp [byts, hjm]] at hj
      obtain rfl := Option.some.inj hj
      have e : Addr.add ⟨b, off, none⟩ j = ⟨b, off + j, none⟩ := by
        by_cases h0 : j = 0
        · subst h0; simp [Addr.add]
        · simp [Addr.add, h0]
      rw [e]
      exact hB.cell j hjm
    · intro v' w' h1 h2 h3
      exact h v' w' h1 ((Below.refl base w).grown h2 hbase (fun k hk => (hown.lt k hk).1))

theorem wpList_append_bs {ops : Array Oper} {rest : List Oper} {o : Oper} {a0 : Act} {Q : Exit → Act → World → Prop} {w : World} (hgd : o.guard = none) (s x : Operand)
    (ho : o.op = .call { callee := .builtin .append, args := #[s, x], argTypes := #[28, 28] })
    (base : Nat) (v : Value) (n : Nat) (xs : List Value) (hs : a0.eval s = v) (hown : w.ownsRow base 5 1 v n xs)
    (a : Option Addr) (b off m c : Nat) (f : Nat → Int) (hx : a0.eval x = .slice a m c) (hB : BSeg w a b off m f) (hlen : n + m ≤ 1099511627776) (hbase : base ≤ w.heap.size)
    (h : ∀ v' w', w'.ownsRow base 5 1 v' (n + m) (xs ++ byts f m) → Below base w w' → wpList Try.prog ops Q rest (a0.put o.dst v') w') : wpList Try.prog ops Q (o :: rest) a0 w :=
  wpList_plain hgd fun K hK => wp_append_bs s x ho base v n xs hs hown a b off m c f hx hB hlen hbase fun v' w' h1 h2 => hK _ _ (h v' w' h1 h2)

/-- A new list of n bytes, with what lies behind it the call's own. -/
def GivesR (w : World) (n : Nat) (f : Nat → Int) (e : Ending) (w' : World) : Prop :=
  ∃ v, e = .returned v ∧ w'.ownsRow w.heap.size 5 1 v n (byts f n) ∧ Ext w w'

theorem owns_congr {w : World} {base : Nat} {v : Value} {n : Nat} {f g : Nat → Int} (h : w.ownsRow base 5 1 v n (byts f n)) (e : ∀ i, i < n → f i = g i) : w.ownsRow base 5 1 v n (byts g n) := by
  rwa [byts_congr e] at h

theorem owns_mono {w : World} {b b' : Nat} {v : Value} {n : Nat} {xs : List Value} (h : w.ownsRow b 5 1 v n xs) (hb : b' ≤ b) : w.ownsRow b' 5 1 v n xs := by
  refine ⟨h.1, ?_⟩
  rcases h.2 with h | ⟨g, cap, cur, hv, hg, hr⟩
  · exact .inl h
  · exact .inr ⟨g, cap, cur, hv, Nat.le_trans hb hg, hr⟩

theorem owns_ext' {w w' : World} {b : Nat} {v : Value} {n : Nat} {xs : List Value} (h : w.ownsRow b 5 1 v n xs) (he : Ext w w') : w'.ownsRow b 5 1 v n xs := by
  refine ⟨h.1, ?_⟩
  rcases h.2 with h | ⟨g, cap, cur, hv, hg, hr, hr'⟩
  · exact .inl h
  · refine .inr ⟨g, cap, cur, hv, hg, ?_, hr'⟩
    have hlt : g < w.heap.size := by
      have := (Array.getElem?_eq_some_iff.1 hr).1
      exact this
    rw [Below.block he g hlt]; exact hr

/-- Its value is a slice, read as the bytes. -/
theorem owns_seg {w : World} {base : Nat} {v : Value} {n : Nat} {f : Nat → Int} (h : w.ownsRow base 5 1 v n (byts f n)) : ∃ a g cap, v = .slice a n cap ∧ base ≤ g ∧ n ≤ cap ∧ cap ≤ 9223372036854775807 ∧ BOwn w a g 0 n f := by
  have h' := h
  rcases h.2 with ⟨rfl, rfl⟩ | ⟨g, cap, cur, rfl, hg, hb, hn, hm, hs, ht⟩
  · exact ⟨none, base, 0, rfl, Nat.le_refl _, Nat.le_refl _, by omega, BOwn.nil _ _ _ _ _⟩
  · obtain ⟨a, g', cap', hv', hg', hO⟩ := bown_of_owns h'
    simp only [Value.slice.injEq] at hv'
    obtain ⟨rfl, -, rfl⟩ := hv'
    refine ⟨_, g', cap, rfl, hg', hn, by unfold maxLen at hm; omega, hO⟩

/-- How many bytes the first j lists have. -/
def tot (n : Nat → Nat) : Nat → Nat
  | 0 => 0
  | j + 1 => tot n j + n j
theorem tot_le (n : Nat → Nat) {j k : Nat} (h : j ≤ k) : tot n j ≤ tot n k := by
  induction k with
  | zero => rw [Nat.le_zero.1 h]; exact Nat.le_refl _
  | succ k ih =>
    by_cases e : j = k + 1
    · rw [e]; exact Nat.le_refl _
    · exact Nat.le_trans (ih (by omega)) (Nat.le_add_right _ _)
/-- The first j lists behind each other, as cells. -/
def catB (f : Nat → Nat → Int) (n : Nat → Nat) : Nat → List Value
  | 0 => []
  | j + 1 => catB f n j ++ byts (f j) (n j)

/-- The four bytes of a word. -/
def wb (x : Int) (i : Nat) : Int := match i with
  | 0 => x / 16777216
  | 1 => x / 65536 % 256
  | 2 => x / 256 % 256
  | _ => x % 256

end Go.Proofs.Ytjpdllhhganbpaa
