/- Walks: lists of bytes put behind each other: slices.Clone, slices.Grow, slices.Concat, appendWord. -/
import Derived.Test.YtigjjkondbdgjabBLists
import Derived.Test.YtigjjkondbdgjabBlk
import Derived.Lib.AppendZerosOnto
import Derived.Laws.OwnMore
namespace Go.Proofs.Ytigjjkondbdgjab
set_option linter.unusedVariables false
set_option linter.unusedSimpArgs false
open Go.RowKit

theorem byts_one (f : Nat → Int) (n : Nat) : ∀ u ∈ byts f n, u.oneCell' = true := by
  intro u hu
  obtain ⟨i, -, rfl⟩ := List.mem_map.1 hu
  rfl

theorem byts_congr {f g : Nat → Int} {n : Nat} (h : ∀ i, i < n → f i = g i) : byts f n = byts g n := by
  unfold byts
  refine List.map_congr_left (fun i hi => ?_)
  rw [h i (List.mem_range.1 hi)]

/-- One list behind the other. -/
def catF (f : Nat → Int) (n : Nat) (g : Nat → Int) (i : Nat) : Int := if i < n then f i else g (i - n)

theorem byts_append (f : Nat → Int) (n : Nat) (g : Nat → Int) (m : Nat) : byts f n ++ byts g m = byts (catF f n g) (n + m) := by
  induction m with
  | zero => rw [Nat.add_zero, show byts g 0 = [] from rfl, List.append_nil]; exact byts_congr (fun i hi => by rw [catF, if_pos hi])
  | succ m ih =>
    rw [byts_succ, ← List.append_assoc, ih, ← Nat.add_assoc, byts_succ]
    congr 3
    rw [catF, if_neg (by omega)]
    congr 1
    omega

theorem run_append_nothing {P : Program} {w : World} (base : Nat) (t ty e : TypeId) (i : TypeInfo) (size : Nat) (ht : P.underlying t = some (.slice e)) (hi : P.info? e = some i)
    (v : Value) (n c : Nat) (xs : List Value) (hown : w.ownsRow base e size v n xs) :
    (Builtin.append_ #[t, t] ty #[v, .slice none 0 c]).run P w = .ok v w := by
  rcases hown.2 with ⟨rfl, rfl⟩ | ⟨g, cap, cur, rfl, _, _, hnc, _⟩
  · simp [Builtin.append_, run_underlying ht, sizeOf, typeInfo, hi, Builtin.lenOf, Builtin.firstCells]
  · simp [Builtin.append_, run_underlying ht, sizeOf, typeInfo, hi, Builtin.lenOf, Builtin.firstCells, hnc, storeCells]

/-- An append of bytes, whatever slice they are. -/
theorem wp_append_bs {o : Oper} {a0 : Act} {K : Act → World → Prop} {Q : Exit → Act → World → Prop} {w : World} (s x : Operand)
    (ho : o.op = .call { callee := .builtin .append, args := #[s, x], argTypes := #[31, 31] })
    (base : Nat) (v : Value) (n : Nat) (xs : List Value) (hs : a0.eval s = v) (hown : w.ownsRow base 5 1 v n xs)
    (a : Option Addr) (b off m c : Nat) (f : Nat → Int) (hx : a0.eval x = .slice a m c) (hB : BSeg w a b off m f) (hlen : n + m ≤ 1099511627776) (hbase : base ≤ w.heap.size)
    (h : ∀ v' w', w'.ownsRow base 5 1 v' (n + m) (xs ++ byts f m) → Below base w w' → K (a0.put o.dst v') w') : o.wp Try.prog a0 w K Q := by
  obtain ⟨i0, hi, hz0, hz1, hz2⟩ := info_parts Try.info5
  have hml : n + m ≤ maxLen := by unfold maxLen; omega
  cases a with
  | none =>
    have hm : m = 0 := by
      cases m with
      | zero => rfl
      | succ m => have := hB.at' (Nat.succ_pos _); cases this
    subst hm
    have hr := run_append_nothing (P := Try.prog) base 31 o.type 5 i0 1 Try.underlying31 hi v n c xs hown
    unfold Oper.wp
    simp [execOp, ho, resolve, invoke, builtin, hs, hx, hr, Result.andThen]
    exact h v w (by rw [show byts f 0 = [] from rfl, List.append_nil]; exact hown) (Below.refl _ _)
  | some ad =>
    refine wp_append_own w s x 31 ho base 5 i0 (.int .u8 0) 1 1 Try.underlying31 hi hz0 hz1 hz2 rfl (by decide) v n xs hs hown ad m c (byts f m) hx (by rw [byts_length, Nat.mul_one]) ?_ (byts_one f m) hml (by omega) hbase ?_
    · intro j u hj
      have hjm : j < m := by have := (List.getElem?_eq_some_iff.1 hj).1; rwa [byts_length] at this
      have := hB.at' (by omega)
      obtain rfl := Option.some.inj this
      rw [show (byts f m)[j]? = some (.int .u8 (f j)) by simp [byts, hjm]] at hj
      obtain rfl := Option.some.inj hj
      have e : Addr.add ⟨b, off, none⟩ j = ⟨b, off + j, none⟩ := by
        by_cases h0 : j = 0
        · subst h0; simp [Addr.add]
        · simp [Addr.add, h0]
      rw [e]
      exact hB.cell j hjm
    · intro v' w' h1 h2 h3
      exact h v' w' h1 ((Below.refl base w).grown h2 hbase (fun k hk => (hown.lt k hk).1))

theorem wpList_append_bs {ops : Array Oper} {rest : List Oper} {o : Oper} {a0 : Act} {Q : Exit → Act → World → Prop} {w : World} (hgd : o.guard = none) (s x : Operand)
    (ho : o.op = .call { callee := .builtin .append, args := #[s, x], argTypes := #[31, 31] })
    (base : Nat) (v : Value) (n : Nat) (xs : List Value) (hs : a0.eval s = v) (hown : w.ownsRow base 5 1 v n xs)
    (a : Option Addr) (b off m c : Nat) (f : Nat → Int) (hx : a0.eval x = .slice a m c) (hB : BSeg w a b off m f) (hlen : n + m ≤ 1099511627776) (hbase : base ≤ w.heap.size)
    (h : ∀ v' w', w'.ownsRow base 5 1 v' (n + m) (xs ++ byts f m) → Below base w w' → wpList Try.prog ops Q rest (a0.put o.dst v') w') : wpList Try.prog ops Q (o :: rest) a0 w :=
  wpList_plain hgd fun K hK => wp_append_bs s x ho base v n xs hs hown a b off m c f hx hB hlen hbase fun v' w' h1 h2 => hK _ _ (h v' w' h1 h2)

/-- A new list of n bytes, with what lies behind it the call's own. -/
def GivesR (w : World) (n : Nat) (f : Nat → Int) (e : Ending) (w' : World) : Prop :=
  ∃ v, e = .returned v ∧ w'.ownsRow w.heap.size 5 1 v n (byts f n) ∧ Ext w w'

theorem owns_congr {w : World} {base : Nat} {v : Value} {n : Nat} {f g : Nat → Int} (h : w.ownsRow base 5 1 v n (byts f n)) (e : ∀ i, i < n → f i = g i) : w.ownsRow base 5 1 v n (byts g n) := by
  rwa [byts_congr e] at h

theorem owns_mono {w : World} {b b' : Nat} {v : Value} {n : Nat} {xs : List Value} (h : w.ownsRow b 5 1 v n xs) (hb : b' ≤ b) : w.ownsRow b' 5 1 v n xs := by
  refine ⟨h.1, ?_⟩
  rcases h.2 with h | ⟨g, cap, cur, hv, hg, hr⟩
  · exact .inl h
  · exact .inr ⟨g, cap, cur, hv, Nat.le_trans hb hg, hr⟩

theorem owns_ext' {w w' : World} {b : Nat} {v : Value} {n : Nat} {xs : List Value} (h : w.ownsRow b 5 1 v n xs) (he : Ext w w') : w'.ownsRow b 5 1 v n xs := by
  refine ⟨h.1, ?_⟩
  rcases h.2 with h | ⟨g, cap, cur, hv, hg, hr, hr'⟩
  · exact .inl h
  · refine .inr ⟨g, cap, cur, hv, hg, ?_, hr'⟩
    have hlt : g < w.heap.size := by
      have := (Array.getElem?_eq_some_iff.1 hr).1
      exact this
    rw [Below.block he g hlt]; exact hr

/-- Its value is a slice, read as the bytes. -/
theorem owns_seg {w : World} {base : Nat} {v : Value} {n : Nat} {f : Nat → Int} (h : w.ownsRow base 5 1 v n (byts f n)) : ∃ a g cap, v = .slice a n cap ∧ base ≤ g ∧ n ≤ cap ∧ cap ≤ 9223372036854775807 ∧ BOwn w a g 0 n f := by
  have h' := h
  rcases h.2 with ⟨rfl, rfl⟩ | ⟨g, cap, cur, rfl, hg, hb, hn, hm, hs, ht⟩
  · exact ⟨none, base, 0, rfl, Nat.le_refl _, Nat.le_refl _, by omega, BOwn.nil _ _ _ _ _⟩
  · obtain ⟨a, g', cap', hv', hg', hO⟩ := bown_of_owns h'
    simp only [Value.slice.injEq] at hv'
    obtain ⟨rfl, -, rfl⟩ := hv'
    refine ⟨_, g', cap, rfl, hg', hn, by unfold maxLen at hm; omega, hO⟩

set_option maxHeartbeats 800000 in
set_option maxRecDepth 100000 in
theorem clone_any (a : Option Addr) (b off n cap : Nat) (f : Nat → Int) (w : World) (hB : BSeg w a b off n f) (hn : n ≤ 1099511627776) : Calls Try.prog 33 #[.slice a n cap] w fun e w' => GivesR w n f e w' := by
  cases a with
  | none =>
    have hm : n = 0 := by
      cases n with
      | zero => rfl
      | succ m => have := hB.at' (Nat.succ_pos _); cases this
    subst hm
    have hq : ∀ w : World, (binOp .eql 31 (.slice none 0 cap) (.slice none 0 0)).run Try.prog w = .ok (.bool true) w := fun w => by kernel_rfl
    go_enter Try.func33, Try.ntmps33
    go_wp2
    go_ret
    exact ⟨_, rfl, World.ownsRow_nil _ _ _ _, Ext.refl _⟩
  | some ad =>
    have hown := World.ownsRow_made (base := w.heap.size) (e := 5) (size := 1) w #[] 0 (Nat.le_refl _) (by simp) rfl
    have hB1 := hB.of_all (Ext.alloc w (.cells #[] 5))
    have Hb := hide hB1
    have Ho := hide hown
    clear hB hB1 hown
    have hq : ∀ w : World, (binOp .eql 31 (.slice (some ad) n cap) (.slice none 0 0)).run Try.prog w = .ok (.bool false) w := fun w => by kernel_rfl
    go_enter Try.func33, Try.ntmps33
    go_wp2_with (at_builtin; refine wpList_append_bs rfl _ _ rfl w.heap.size _ 0 [] rfl Ho.out _ b off n cap f rfl Hb.out (by omega) (by simp) ?_)
    intro v' w1 h1 h2
    have HO := hide h1
    clear h1 Ho Hb
    have HE : Hid (Ext w w1) := hide (((Below.refl _ _).alloc (Nat.le_refl _) _).trans h2)
    clear h2
    go_wp2
    go_ret
    exact ⟨_, rfl, HO.out, HE.out⟩

set_option maxHeartbeats 1600000 in
set_option maxRecDepth 100000 in
theorem grow_nil (size : Nat) (w : World) (hn : size ≤ 1099511627776) : Calls Try.prog 75 #[.slice none 0 0, .int .i64 size] w fun e w' => ∃ v, e = .returned v ∧ w'.ownsRow w.heap.size 5 1 v 0 [] ∧ Ext w w' := by
  obtain ⟨i0, hi, hz0, hz1, hz2⟩ := info_parts Try.info5
  have n0 : ¬ (size : Int) < 0 := by omega
  by_cases h0 : size = 0
  · subst h0
    go_enter Try.func75, Try.ntmps75
    go_wp2
    go_ret
    exact ⟨_, rfl, World.ownsRow_nil _ _ _ _, Ext.refl _⟩
  · have h1 : (0 : Int) < size := by omega
    have hg := Lib.run_append_grow_zeros w 31 3 31 5 i0 (.int .u8 0) .i64 .i64 Try.underlying31 Try.underlying3 hi hz0 none 0 0 [] rfl size (by omega) (by omega) (by omega) (by omega) (by rw [hz2]; omega) (by rw [hz2]; simp only [Builtin.nextslicecap]; rw [if_pos (by omega)]; omega)
    simp only [Nat.zero_add] at hg
    have hge := grownCap_ge w size 0 5
    have hcm : grownCap w size 0 5 ≤ maxLen := grownCap_le_maxLen w size 0 5 (by unfold maxLen; omega)
    generalize grownCap w size 0 5 = cap at *
    have hO : ((w.drew.alloc (.cells (([] : List Value).toArray ++ Builtin.zeroCells (Value.int .u8 0).cells size ++ Builtin.zeroCells (Value.int .u8 0).cells (cap - size)) 5))).ownsRow w.heap.size 5 1 (.slice (some ⟨w.heap.size, 0, none⟩) 0 cap) 0 [] := by
      refine ⟨rfl, .inr ⟨w.heap.size, cap, _, rfl, Nat.le_refl _, heap_alloc_new w.drew _, Nat.zero_le _, hcm, ?_, by simp⟩⟩
      simp [size_zeroCells, Value.cells]
      omega
    have hE : Ext w (w.drew.alloc (.cells (([] : List Value).toArray ++ Builtin.zeroCells (Value.int .u8 0).cells size ++ Builtin.zeroCells (Value.int .u8 0).cells (cap - size)) 5)) := by
      exact Ext.trans (b := w.drew) ⟨rfl, rfl, rfl, Nat.le_refl _, fun _ _ => rfl⟩ (Ext.alloc _ _)
    have HO := hide hO
    have HE := hide hE
    have Hg := hide hg
    have c0 : (0 : Int) ≤ cap := by omega
    clear hO hE hg hge hcm
    generalize w.drew.alloc (.cells (([] : List Value).toArray ++ Builtin.zeroCells (Value.int .u8 0).cells size ++ Builtin.zeroCells (Value.int .u8 0).cells (cap - size)) 5) = w1 at *
    go_enter Try.func75, Try.ntmps75
    go_wp2_with (at_builtin; refine Lib.wpList_append_run _ rfl _ _ _ _ rfl _ _ rfl rfl _ _ Hg.out ?_)
    clear Hg
    go_wp2
    go_ret
    exact ⟨_, rfl, HO.out, HE.out⟩

/-- How many bytes the first j lists have. -/
def tot (n : Nat → Nat) : Nat → Nat
  | 0 => 0
  | j + 1 => tot n j + n j
theorem tot_le (n : Nat → Nat) {j k : Nat} (h : j ≤ k) : tot n j ≤ tot n k := by
  induction k with
  | zero => rw [Nat.le_zero.1 h]; exact Nat.le_refl _
  | succ k ih =>
    by_cases e : j = k + 1
    · rw [e]; exact Nat.le_refl _
    · exact Nat.le_trans (ih (by omega)) (Nat.le_add_right _ _)
/-- The first j lists behind each other, as cells. -/
def catB (f : Nat → Nat → Int) (n : Nat → Nat) : Nat → List Value
  | 0 => []
  | j + 1 => catB f n j ++ byts (f j) (n j)

set_option maxHeartbeats 1600000 in
set_option maxRecDepth 100000 in
theorem concat_any (B o0 k kc : Nat) (a : Nat → Option Addr) (b off n c : Nat → Nat) (f : Nat → Nat → Int) (w : World) (hk : k ≤ 1048576)
    (hc : ∀ i, i < k → w.cell? ⟨B, o0 + i, none⟩ = some (.slice (a i) (n i) (c i))) (hB : ∀ i, i < k → BSeg w (a i) (b i) (off i) (n i) (f i)) (hT : tot n k ≤ 1099511627776) :
    Calls Try.prog 42 #[.slice (some ⟨B, o0, none⟩) k kc] w fun e w' => ∃ v, e = .returned v ∧ w'.ownsRow w.heap.size 5 1 v (tot n k) (catB f n k) ∧ Ext w w' := by
  go_enter Try.func42, Try.ntmps42
  go_wp2
  rename_i K hK
  have HK := hide hK
  clear hK
  go_loop [3, 11] (fun s i => ∃ j : Nat, j ≤ k ∧ i = .int .i64 j ∧ s = .int .i64 (tot n j)) (fun _ i => k - (intOf i).toNat)
  case atStart => exact ⟨0, by omega, rfl, rfl⟩
  case round =>
    obtain ⟨j, hj, rfl, rfl⟩ := hrel
    by_cases hlt : j < k
    · have hc1 := hc j hlt
      have hjk : (j : Int) < k := by omega
      have h1 : tot n (j + 1) ≤ tot n k := tot_le n (by omega)
      have h2 : Hid (tot n (j + 1) = tot n j + n j) := rfl
      have h3 : ¬ ((tot n j : Int) + n j < 0) := by omega
      have h4 : (tot n j : Int) + n j ≤ 1099511627776 := by have := h2.out; omega
      clear h1
      go_wp2
      go_round
      case rel => exact ⟨j + 1, by omega, by go_num, by rw [h2.out]; go_num⟩
      case measure => simp [intOf]; omega
    · have e : j = k := by omega
      subst e
      have hT0 : (0 : Int) ≤ tot n j := by omega
      go_wp2
      apply HK.out
      clear HK
      go_wp2_with fail
      refine (grow_nil (tot n j) w hT).mono ?_
      rintro e w1 ⟨v, rfl, hO, hE⟩
      have HO := hide hO
      have HE := hide hE
      clear hO hE
      go_wp2
      rename_i K hK
      have HK := hide hK
      clear hK
      go_loopw [6, 27] (fun v i wr => ∃ q : Nat, q ≤ j ∧ i = .int .i64 q ∧ wr.ownsRow w.heap.size 5 1 v (tot n q) (catB f n q) ∧ Ext w wr) (fun _ i _ => j - (intOf i).toNat)
      case atStart => exact ⟨0, by omega, rfl, HO.out, HE.out⟩
      case round =>
      clear HO HE
      obtain ⟨q, hq, rfl, hO, hE⟩ := hrel
      by_cases hlt : q < j
      · have hc1 : wr.cell? ⟨B, o0 + q, none⟩ = some (.slice (a q) (n q) (c q)) := by
          have h0 := hc q hlt
          rw [World.cell?_of_block (a := ⟨B, o0 + q, none⟩) (Below.block hE B (World.block_lt_of_cell? _ _ h0))]
          exact h0
        have Hb := hide ((hB q hlt).of_all hE)
        have HO := hide hO
        have HE := hide hE
        have hqj : (q : Int) < j := by omega
        have hl : tot n q + n q ≤ 1099511627776 := Nat.le_trans (tot_le n (show q + 1 ≤ j by omega)) hT
        have Hsz := hide (Below.size hE)
        clear hO hE hT0
        go_wp2_with (at_builtin; refine wpList_append_bs rfl _ _ rfl w.heap.size _ _ _ rfl HO.out _ _ _ _ _ _ rfl Hb.out hl Hsz.out ?_)
        intro v' w2 h1 h2
        have H1 := hide h1
        have H2 : Hid (Ext w w2) := hide (Below.trans HE.out h2)
        clear h1 h2 Hb HO HE Hsz
        go_wp2
        go_roundw
        case rel => exact ⟨q + 1, by omega, by go_num, H1.out, H2.out⟩
        case measure => simp [intOf]; omega
      · have e : q = j := by omega
        subst e
        have HO := hide hO
        have HE := hide hE
        clear hO hE
        go_wp2
        apply HK.out
        clear HK
        go_wp2
        go_ret
        exact ⟨_, rfl, HO.out, HE.out⟩

/-- The four bytes of a word. -/
def wb (x : Int) (i : Nat) : Int := match i with
  | 0 => x / 16777216
  | 1 => x / 65536 % 256
  | 2 => x / 256 % 256
  | _ => x % 256

set_option maxHeartbeats 1600000 in
set_option maxRecDepth 100000 in
theorem appendWord_any (base : Nat) (v : Value) (n : Nat) (f : Nat → Int) (x : Int) (w : World) (hO : w.ownsRow base 5 1 v n (byts f n)) (hn : n ≤ 1048576) (hbase : base ≤ w.heap.size) (h0 : 0 ≤ x) (h1 : x < 4294967296) :
    Calls Try.prog 105 #[v, .int .u32 x] w fun e w' => ∃ v', e = .returned v' ∧ w'.ownsRow base 5 1 v' (n + 4) (byts (catF f n (wb x)) (n + 4)) ∧ Below base w w' := by
  have hB : BSeg (w.alloc (.cells #[.int .u8 (x / 16777216), .int .u8 (x / 65536 % 256), .int .u8 (x / 256 % 256), .int .u8 (x % 256)] 5)) (some ⟨w.heap.size, 0, none⟩) w.heap.size 0 4 (wb x) := ⟨fun _ => rfl, fun i hi => by
    have := Blk.alloc w [.int .u8 (x / 16777216), .int .u8 (x / 65536 % 256), .int .u8 (x / 256 % 256), .int .u8 (x % 256)] 5
    rw [Nat.zero_add]
    have e : i = 0 ∨ i = 1 ∨ i = 2 ∨ i = 3 := by omega
    rcases e with rfl | rfl | rfl | rfl <;> exact (this _ _ rfl).1⟩
  have HB := hide hB
  have HO := hide (hO.alloc (.cells #[.int .u8 (x / 16777216), .int .u8 (x / 65536 % 256), .int .u8 (x / 256 % 256), .int .u8 (x % 256)] 5))
  clear hO hB
  go_enter Try.func105, Try.ntmps105
  go_wp2_with (at_builtin; refine wpList_append_bs rfl _ _ rfl base _ n (byts f n) rfl HO.out _ w.heap.size 0 4 4 (wb x) rfl HB.out (by omega) (by simp; omega) ?_)
  intro v' w1 h2 h3
  rw [byts_append] at h2
  have H2 := hide h2
  have H3 : Hid (Below base w w1) := hide (((Below.refl _ _).alloc hbase _).trans h3)
  clear HO HB h2 h3
  go_wp2
  go_ret
  exact ⟨_, rfl, H2.out, H3.out⟩

/-- Two lists. -/
theorem concat2_any (S kc : Nat) (r : Option Addr) (b off n cap : Nat) (f : Nat → Int) (da : Option Addr) (db doff m dcap : Nat) (fd : Nat → Int) (w : World) (hS : Blk w S [.slice r n cap, .slice da m dcap]) (h1 : BSeg w r b off n f) (h2 : BSeg w da db doff m fd) (hn : n + m ≤ 1048576) :
    Calls Try.prog 42 #[.slice (some ⟨S, 0, none⟩) 2 kc] w fun e w' => ∃ a g cap', e = .returned (.slice a (n + m) cap') ∧ w.heap.size ≤ g ∧ n + m ≤ cap' ∧ cap' ≤ 9223372036854775807 ∧ BOwn w' a g 0 (n + m) (catF f n fd) ∧ Ext w w' := by
  refine (concat_any S 0 2 kc (fun i => if i = 0 then r else da) (fun i => if i = 0 then b else db) (fun i => if i = 0 then off else doff) (fun i => if i = 0 then n else m) (fun i => if i = 0 then cap else dcap) (fun i => if i = 0 then f else fd) w (by omega) ?_ ?_ ?_).mono ?_
  · intro i hi
    have : i = 0 ∨ i = 1 := by omega
    rcases this with rfl | rfl
    · exact (hS 0 _ rfl).1
    · exact (hS 1 _ rfl).1
  · intro i hi
    have : i = 0 ∨ i = 1 := by omega
    rcases this with rfl | rfl
    · exact h1
    · exact h2
  · show 0 + n + m ≤ _
    omega
  · rintro e w' ⟨v, rfl, hO, hE⟩
    have hO' : w'.ownsRow w.heap.size 5 1 v (n + m) (byts (catF f n fd) (n + m)) := by
      have h3 : w'.ownsRow w.heap.size 5 1 v (0 + n + m) ([] ++ byts f n ++ byts fd m) := hO
      rwa [Nat.zero_add, List.nil_append, byts_append] at h3
    obtain ⟨a, g, cap', rfl, hg, hc, hb, hB⟩ := owns_seg hO'
    exact ⟨a, g, cap', rfl, hg, hc, hb, hB, hE⟩

end Go.Proofs.Ytigjjkondbdgjab
