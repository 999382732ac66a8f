/- Walks: lists of ints put behind each other. Made out of BCat. -/
import Derived.Test.YtjpdllhhganbpaaBCat
import Derived.Test.YtjpdllhhganbpaaLists
namespace Go.Proofs.Ytjpdllhhganbpaa
set_option linter.unusedVariables false
set_option linter.unusedSimpArgs false
open Go.RowKit

theorem intz_one (f : Nat → Int) (n : Nat) : ∀ u ∈ ints f n, u.oneCell' = true := by
  intro u hu
  obtain ⟨i, -, rfl⟩ := List.mem_map.1 hu
  rfl

theorem intz_congr {f g : Nat → Int} {n : Nat} (h : ∀ i, i < n → f i = g i) : ints f n = ints g n := by
  unfold ints
  refine List.map_congr_left (fun i hi => ?_)
  rw [h i (List.mem_range.1 hi)]

theorem intz_append (f : Nat → Int) (n : Nat) (g : Nat → Int) (m : Nat) : ints f n ++ ints g m = ints (catF f n g) (n + m) := by
  induction m with
  | zero => rw [Nat.add_zero, show ints g 0 = [] from rfl, List.append_nil]; exact intz_congr (fun i hi => by rw [catF, if_pos hi])
  | succ m ih =>
    rw [ints_succ, ← List.append_assoc, ih, ← Nat.add_assoc, ints_succ]
    congr 3
    rw [catF, if_neg (by omega)]
    congr 1
    omega

/-- An append of ints, whatever slice they are. -/
theorem wp_append_is {o : Oper} {a0 : Act} {K : Act → World → Prop} {Q : Exit → Act → World → Prop} {w : World} (s x : Operand)
    (ho : o.op = .call { callee := .builtin .append, args := #[s, x], argTypes := #[22, 22] })
    (base : Nat) (v : Value) (n : Nat) (xs : List Value) (hs : a0.eval s = v) (hown : w.ownsRow base 3 1 v n xs)
    (a : Option Addr) (b off m c : Nat) (f : Nat → Int) (hx : a0.eval x = .slice a m c) (hB : Seg w a b off m f) (hlen : n + m ≤ 1099511627776) (hbase : base ≤ w.heap.size)
    (h : ∀ v' w', w'.ownsRow base 3 1 v' (n + m) (xs ++ ints f m) → Below base w w' → K (a0.put o.dst v') w') : o.wp Try.prog a0 w K Q := by
  obtain ⟨i0, hi, hz0, hz1, hz2⟩ := info_parts Try.info3
  have hml : n + m ≤ maxLen := by unfold maxLen; omega
  cases a with
  | none =>
    have hm : m = 0 := by
      cases m with
      | zero => rfl
      | succ m => have := hB.at' (Nat.succ_pos _); cases this
    subst hm
    have hr := run_append_nothing (P := Try.prog) base 22 o.type 3 i0 1 Try.underlying22 hi v n c xs hown
    unfold Oper.wp
    simp [execOp, ho, resolve, invoke, builtin, hs, hx, hr, Result.andThen]
    exact h v w (by rw [show ints f 0 = [] from rfl, List.append_nil]; exact hown) (Below.refl _ _)
  | some ad =>
    refine wp_append_own w s x 22 ho base 3 i0 (.int .i64 0) 1 8 Try.underlying22 hi hz0 hz1 hz2 rfl (by decide) v n xs hs hown ad m c (ints f m) hx (by rw [ints_length, Nat.mul_one]) ?_ (intz_one f m) hml (by omega) hbase ?_
    · intro j u hj
      have hjm : j < m := by have := (List.getElem?_eq_some_iff.1 hj).1; rwa [ints_length] at this
      have := hB.at' (by omega)
      obtain rfl := Option.some.inj this
      rw [show (ints f m)[j]? = some (.int .i64 (f j)) by simp [ints, hjm]] at hj
      obtain rfl := Option.some.inj hj
      have e : Addr.add ⟨b, off, none⟩ j = ⟨b, off + j, none⟩ := by
        by_cases h0 : j = 0
        · subst h0; simp [Addr.add]
        · simp [Addr.add, h0]
      rw [e]
      exact hB.cell j hjm
    · intro v' w' h1 h2 h3
      exact h v' w' h1 ((Below.refl base w).grown h2 hbase (fun k hk => (hown.lt k hk).1))

theorem wpList_append_is {ops : Array Oper} {rest : List Oper} {o : Oper} {a0 : Act} {Q : Exit → Act → World → Prop} {w : World} (hgd : o.guard = none) (s x : Operand)
    (ho : o.op = .call { callee := .builtin .append, args := #[s, x], argTypes := #[22, 22] })
    (base : Nat) (v : Value) (n : Nat) (xs : List Value) (hs : a0.eval s = v) (hown : w.ownsRow base 3 1 v n xs)
    (a : Option Addr) (b off m c : Nat) (f : Nat → Int) (hx : a0.eval x = .slice a m c) (hB : Seg w a b off m f) (hlen : n + m ≤ 1099511627776) (hbase : base ≤ w.heap.size)
    (h : ∀ v' w', w'.ownsRow base 3 1 v' (n + m) (xs ++ ints f m) → Below base w w' → wpList Try.prog ops Q rest (a0.put o.dst v') w') : wpList Try.prog ops Q (o :: rest) a0 w :=
  wpList_plain hgd fun K hK => wp_append_is s x ho base v n xs hs hown a b off m c f hx hB hlen hbase fun v' w' h1 h2 => hK _ _ (h v' w' h1 h2)

/-- A new list of n ints, with what lies behind it the call's own. -/
def GivesRI (w : World) (n : Nat) (f : Nat → Int) (e : Ending) (w' : World) : Prop :=
  ∃ v, e = .returned v ∧ w'.ownsRow w.heap.size 3 1 v n (ints f n) ∧ Ext w w'

theorem iowns_congr {w : World} {base : Nat} {v : Value} {n : Nat} {f g : Nat → Int} (h : w.ownsRow base 3 1 v n (ints f n)) (e : ∀ i, i < n → f i = g i) : w.ownsRow base 3 1 v n (ints g n) := by
  rwa [intz_congr e] at h

theorem iowns_mono {w : World} {b b' : Nat} {v : Value} {n : Nat} {xs : List Value} (h : w.ownsRow b 3 1 v n xs) (hb : b' ≤ b) : w.ownsRow b' 3 1 v n xs := by
  refine ⟨h.1, ?_⟩
  rcases h.2 with h | ⟨g, cap, cur, hv, hg, hr⟩
  · exact .inl h
  · exact .inr ⟨g, cap, cur, hv, Nat.le_trans hb hg, hr⟩

theorem iowns_ext' {w w' : World} {b : Nat} {v : Value} {n : Nat} {xs : List Value} (h : w.ownsRow b 3 1 v n xs) (he : Ext w w') : w'.ownsRow b 3 1 v n xs := by
  refine ⟨h.1, ?_⟩
  rcases h.2 with h | ⟨g, cap, cur, hv, hg, hr, hr'⟩
  · exact .inl h
  · refine .inr ⟨g, cap, cur, hv, hg, ?_, hr'⟩
    have hlt : g < w.heap.size := by
      have := (Array.getElem?_eq_some_iff.1 hr).1
      exact this
    rw [Below.block he g hlt]; exact hr

/-- Its value is a slice, read as the ints. -/
theorem iowns_seg {w : World} {base : Nat} {v : Value} {n : Nat} {f : Nat → Int} (h : w.ownsRow base 3 1 v n (ints f n)) : ∃ a g cap, v = .slice a n cap ∧ base ≤ g ∧ n ≤ cap ∧ cap ≤ 9223372036854775807 ∧ Own w a g 0 n f := by
  have h' := h
  rcases h.2 with ⟨rfl, rfl⟩ | ⟨g, cap, cur, rfl, hg, hb, hn, hm, hs, ht⟩
  · exact ⟨none, base, 0, rfl, Nat.le_refl _, Nat.le_refl _, by omega, Own.nil _ _ _ _ _⟩
  · obtain ⟨a, g', cap', hv', hg', hO⟩ := own_of_owns h'
    simp only [Value.slice.injEq] at hv'
    obtain ⟨rfl, -, rfl⟩ := hv'
    refine ⟨_, g', cap, rfl, hg', hn, by unfold maxLen at hm; omega, hO⟩

end Go.Proofs.Ytjpdllhhganbpaa
