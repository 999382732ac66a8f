/- Walks: slices.Clone at strings, numbers and bytes: copies of one's own, and where they lie. -/
import Derived.Test.YtfhiiakoilkbkaaGreatDoorCv04
namespace Go.Proofs.YtfhiiakoilkbkaaGreatDoor
set_option linter.unusedVariables false
set_option linter.unusedSimpArgs false
open Go.RowKit
def strz (f : Nat → ByteArray) (n : Nat) : List Value := (List.range n).map (fun i => .string (f i))
theorem strz_len (f : Nat → ByteArray) (n : Nat) : (strz f n).length = n := by simp [strz]
theorem strz_one (f : Nat → ByteArray) (n : Nat) : ∀ u ∈ strz f n, u.oneCell' = true := by
 intro u hu
 obtain ⟨i, -, rfl⟩ := List.mem_map.1 hu
 rfl
theorem wp_append_ss {o : Oper} {a0 : Act} {K : Act → World → Prop} {Q : Exit → Act → World → Prop} {w : World} (s x : Operand)
  (ho : o.op = .call { callee := .builtin .append, args := #[s, x], argTypes := #[22, 22] })
  (base : Nat) (v : Value) (n : Nat) (xs : List Value) (hs : a0.eval s = v) (hown : w.ownsRow base 9 1 v n xs)
  (a : Option Addr) (b off m c : Nat) (f : Nat → ByteArray) (hx : a0.eval x = .slice a m c) (hB : SSeg w a b off m f) (hlen : n + m ≤ 1099511627776) (hbase : base ≤ w.heap.size)
  (h : ∀ v' w', w'.ownsRow base 9 1 v' (n + m) (xs ++ strz f m) → Below base w w' → K (a0.put o.dst v') w') : o.wp Tryz.prog a0 w K Q := by
 obtain ⟨i0, hi, hz0, hz1, hz2⟩ := info_parts Tryz.infoS
 have hml : n + m ≤ maxLen := by unfold maxLen; omega
 cases a with
 | none =>
  have hm : m = 0 := by
   cases m with
   | zero => rfl
   | succ m => have := hB.at' (Nat.succ_pos _); cases this
  subst hm
  have hr := run_append_nothing (P := Tryz.prog) base 22 o.type 9 i0 1 Tryz.underlying22 hi v n c xs hown
  unfold Oper.wp
  simp [execOp, ho, resolve, invoke, builtin, hs, hx, hr, Result.andThen]
  exact h v w (by rw [show strz f 0 = [] from rfl, List.append_nil]; exact hown) (Below.refl _ _)
 | some ad =>
  refine wp_append_own w s x 22 ho base 9 i0 (.string ⟨#[]⟩) 1 16 Tryz.underlying22 hi hz0 hz1 hz2 rfl (by decide) v n xs hs hown ad m c (strz f m) hx (by rw [strz_len, Nat.mul_one]) ?_ (strz_one f m) hml (by omega) hbase ?_
  ·intro j u hj
   have hjm : j < m := by have := (List.getElem?_eq_some_iff.1 hj).1; rwa [strz_len] at this
   have := hB.at' (by omega)
   obtain rfl := Option.some.inj this
   rw [show (strz f m)[j]? = some (.string (f j)) by simp [strz, hjm]] at hj
   obtain rfl := Option.some.inj hj
   have e : Addr.add ⟨b, off, none⟩ j = ⟨b, off + j, none⟩ := by
    by_cases h0 : j = 0
    ·subst h0; simp [Addr.add]
    ·simp [Addr.add, h0]
   rw [e]
   exact hB.cell j hjm
  ·intro v' w' h1 h2 h3
   exact h v' w' h1 ((Below.refl base w).grown h2 hbase (fun k hk => (hown.lt k hk).1))
theorem wpList_append_ss {ops : Array Oper} {rest : List Oper} {o : Oper} {a0 : Act} {Q : Exit → Act → World → Prop} {w : World} (hgd : o.guard = none) (s x : Operand)
  (ho : o.op = .call { callee := .builtin .append, args := #[s, x], argTypes := #[22, 22] })
  (base : Nat) (v : Value) (n : Nat) (xs : List Value) (hs : a0.eval s = v) (hown : w.ownsRow base 9 1 v n xs)
  (a : Option Addr) (b off m c : Nat) (f : Nat → ByteArray) (hx : a0.eval x = .slice a m c) (hB : SSeg w a b off m f) (hlen : n + m ≤ 1099511627776) (hbase : base ≤ w.heap.size)
  (h : ∀ v' w', w'.ownsRow base 9 1 v' (n + m) (xs ++ strz f m) → Below base w w' → wpList Tryz.prog ops Q rest (a0.put o.dst v') w') : wpList Tryz.prog ops Q (o :: rest) a0 w :=
 wpList_plain hgd fun K hK => wp_append_ss s x ho base v n xs hs hown a b off m c f hx hB hlen hbase fun v' w' h1 h2 => hK _ _ (h v' w' h1 h2)
theorem sowns_seg {w : World} {base : Nat} {v : Value} {n : Nat} {f : Nat → ByteArray} (h : w.ownsRow base 9 1 v n (strz f n)) : ∃ q : Plc, v = .slice q.ad n q.cap ∧ base ≤ q.b ∧ SSeg w q.ad q.b q.off n f ∧ SAny w q.ad q.b q.off n := by
 have h' := h
 rcases h.2 with ⟨rfl, h0⟩ | ⟨g, cap, cur, rfl, hg, hb, hn, hm, hs, ht⟩
 ·subst h0
  exact ⟨⟨none, base, 0, 0⟩, rfl, Nat.le_refl _, ⟨fun h => absurd h (Nat.lt_irrefl _), fun i h => absurd h (Nat.not_lt_zero _)⟩, ⟨fun h => absurd h (Nat.lt_irrefl _), fun i h => absurd h (Nat.not_lt_zero _), fun i h => absurd h (Nat.not_lt_zero _)⟩⟩
 ·have hc : ∀ i, i < n → w.cell? ⟨g, 0 + i, none⟩ = some (.string (f i)) := fun i hi => by
   rw [Nat.zero_add, World.ownsRow.cellAt h' i (by simpa using hi)]
   simp [strz, hi]
  exact ⟨⟨some ⟨g, 0, none⟩, g, 0, cap⟩, rfl, hg, ⟨fun _ => rfl, hc⟩, ⟨fun _ => rfl, fun i hi => ⟨_, hc i hi⟩, fun i hi => by simp [World.frozen?, hb]⟩⟩
def CpSs (W w' : World) (n : Nat) (f : Nat → ByteArray) (q : Plc) : Prop := ∀ w'', Kp W.heap.size w' w'' → (SSeg w'' q.ad q.b q.off n f ∧ SAny w'' q.ad q.b q.off n) ∧ (0 < n → W.heap.size ≤ q.b ∧ q.b < w'.heap.size)
def CpIs (W w' : World) (n : Nat) (f : Nat → Int) (q : Plc) : Prop := ∀ w'', Kp W.heap.size w' w'' → Own w'' q.ad q.b q.off n f ∧ (0 < n → W.heap.size ≤ q.b ∧ q.b < w'.heap.size)
def CpBs (W w' : World) (n : Nat) (f : Nat → Int) (q : Plc) : Prop := ∀ w'', Kp W.heap.size w' w'' → BOwn w'' q.ad q.b q.off n f ∧ (0 < n → W.heap.size ≤ q.b ∧ q.b < w'.heap.size)
theorem cps_of {W w' : World} {n : Nat} {f : Nat → ByteArray} {q : Plc} (h1 : W.heap.size ≤ q.b) (h2 : SSeg w' q.ad q.b q.off n f) (h3 : SAny w' q.ad q.b q.off n) : CpSs W w' n f q := fun w'' k => by
 have hb : 0 < n → w''.heap[q.b]? = w'.heap[q.b]? := fun h0 => k.2 q.b h1 (h3.lt h0)
 exact ⟨⟨⟨h2.at', fun i hi => (World.cell?_of_block (a := ⟨q.b, q.off + i, none⟩) (hb (by omega))).trans (h2.cell i hi)⟩, h3.of_blk hb⟩, fun h0 => ⟨h1, h3.lt h0⟩⟩
theorem cpi_of {W w' : World} {n : Nat} {f : Nat → Int} {q : Plc} (h1 : W.heap.size ≤ q.b) (h2 : Own w' q.ad q.b q.off n f) : CpIs W w' n f q := fun w'' k => by
 have hb : 0 < n → w''.heap[q.b]? = w'.heap[q.b]? := fun h0 => k.2 q.b h1 (h2.lt h0)
 exact ⟨⟨⟨h2.at', fun i hi => (World.cell?_of_block (a := ⟨q.b, q.off + i, none⟩) (hb (by omega))).trans (h2.cell i hi)⟩, fun i hi => (World.frozen?_of_block (a := ⟨q.b, q.off + i, none⟩) (hb (by omega))).trans (h2.free i hi)⟩, fun h0 => ⟨h1, h2.lt h0⟩⟩
theorem cpb_of {W w' : World} {n : Nat} {f : Nat → Int} {q : Plc} (h1 : W.heap.size ≤ q.b) (h2 : BOwn w' q.ad q.b q.off n f) : CpBs W w' n f q := fun w'' k => by
 have hb : 0 < n → w''.heap[q.b]? = w'.heap[q.b]? := fun h0 => k.2 q.b h1 (h2.lt h0)
 exact ⟨⟨⟨h2.at', fun i hi => (World.cell?_of_block (a := ⟨q.b, q.off + i, none⟩) (hb (by omega))).trans (h2.cell i hi)⟩, fun i hi => (World.frozen?_of_block (a := ⟨q.b, q.off + i, none⟩) (hb (by omega))).trans (h2.free i hi)⟩, fun h0 => ⟨h1, h2.lt h0⟩⟩
set_option maxHeartbeats 1600000 in
set_option maxRecDepth 100000 in
theorem cloneS_any (p : Plc) (n : Nat) (f : Nat → ByteArray) (w : World) (hB : SSeg w p.ad p.b p.off n f) (hn : n ≤ 1099511627776) : Calls Tryz.prog 65 #[.slice p.ad n p.cap] w fun e w' => ∃ q : Plc, e = .returned (.slice q.ad n q.cap) ∧ CpSs w w' n f q ∧ Ext w w' := by
 obtain ⟨a, b, off, cap⟩ := p
 dsimp only at hB ⊢
 cases a with
 | none =>
  have hm : n = 0 := by
   cases n with
   | zero => rfl
   | succ m => have := hB.at' (Nat.succ_pos _); cases this
  subst hm
  have hq : ∀ w : World, (binOp .eql 22 (.slice none 0 cap) (.slice none 0 0)).run Tryz.prog w = .ok (.bool true) w := fun w => by kernel_rfl
  go_enter Tryz.func65, Tryz.ntmps65
  go_wp2
  go_ret
  exact ⟨⟨none, w.heap.size, 0, 0⟩, rfl, cps_of (Nat.le_refl _) ⟨fun h => absurd h (Nat.lt_irrefl _), fun i h => absurd h (Nat.not_lt_zero _)⟩ ⟨fun h => absurd h (Nat.lt_irrefl _), fun i h => absurd h (Nat.not_lt_zero _), fun i h => absurd h (Nat.not_lt_zero _)⟩, Ext.refl _⟩
 | some ad =>
  have hown := World.ownsRow_made (base := w.heap.size) (e := 9) (size := 1) w #[] 0 (Nat.le_refl _) (by simp) rfl
  have hB1 := hB.of_all (Ext.alloc w (.cells #[] 9))
  have Hb := hide hB1
  have Ho := hide hown
  clear hB hB1 hown
  have hq : ∀ w : World, (binOp .eql 22 (.slice (some ad) n cap) (.slice none 0 0)).run Tryz.prog w = .ok (.bool false) w := fun w => by kernel_rfl
  go_enter Tryz.func65, Tryz.ntmps65
  go_wp2_with (at_builtin; refine wpList_append_ss rfl _ _ rfl w.heap.size _ 0 [] rfl Ho.out _ b off n cap f rfl Hb.out (by omega) (by simp) ?_)
  intro v' w1 h1 h2
  have HO := hide h1
  clear h1 Ho Hb
  have HE : Hid (Ext w w1) := hide (((Below.refl _ _).alloc (Nat.le_refl _) _).trans h2)
  clear h2
  go_wp2
  go_ret
  obtain ⟨q, h1, h2, h3, h4⟩ := sowns_seg (f := f) (n := n) (by simpa using HO.out)
  exact ⟨q, congrArg Ending.returned h1, cps_of h2 h3 h4, HE.out⟩
set_option maxHeartbeats 1600000 in
set_option maxRecDepth 100000 in
theorem cloneI_any (p : Plc) (n : Nat) (f : Nat → Int) (w : World) (hB : Seg w p.ad p.b p.off n f) (hn : n ≤ 1099511627776) : Calls Tryz.prog 67 #[.slice p.ad n p.cap] w fun e w' => ∃ q : Plc, e = .returned (.slice q.ad n q.cap) ∧ CpIs w w' n f q ∧ Ext w w' := by
 obtain ⟨a, b, off, cap⟩ := p
 dsimp only at hB ⊢
 cases a with
 | none =>
  have hm : n = 0 := by
   cases n with
   | zero => rfl
   | succ m => have := hB.at' (Nat.succ_pos _); cases this
  subst hm
  have hq : ∀ w : World, (binOp .eql 23 (.slice none 0 cap) (.slice none 0 0)).run Tryz.prog w = .ok (.bool true) w := fun w => by kernel_rfl
  go_enter Tryz.func67, Tryz.ntmps67
  go_wp2
  go_ret
  exact ⟨⟨none, w.heap.size, 0, 0⟩, rfl, cpi_of (Nat.le_refl _) ⟨⟨fun h => absurd h (Nat.lt_irrefl _), fun i h => absurd h (Nat.not_lt_zero _)⟩, fun i h => absurd h (Nat.not_lt_zero _)⟩, Ext.refl _⟩
 | some ad =>
  have hown := World.ownsRow_made (base := w.heap.size) (e := 3) (size := 1) w #[] 0 (Nat.le_refl _) (by simp) rfl
  have hB1 := hB.of_all (Ext.alloc w (.cells #[] 3))
  have Hb := hide hB1
  have Ho := hide hown
  clear hB hB1 hown
  have hq : ∀ w : World, (binOp .eql 23 (.slice (some ad) n cap) (.slice none 0 0)).run Tryz.prog w = .ok (.bool false) w := fun w => by kernel_rfl
  go_enter Tryz.func67, Tryz.ntmps67
  go_wp2_with (at_builtin; refine wpList_append_is rfl _ _ rfl w.heap.size _ 0 [] rfl Ho.out _ b off n cap f rfl Hb.out (by omega) (by simp) ?_)
  intro v' w1 h1 h2
  have HO := hide h1
  clear h1 Ho Hb
  have HE : Hid (Ext w w1) := hide (((Below.refl _ _).alloc (Nat.le_refl _) _).trans h2)
  clear h2
  go_wp2
  go_ret
  obtain ⟨a2, g, c2, h1, h2, -, -, h3⟩ := iowns_seg (f := f) (n := n) (by simpa using HO.out)
  exact ⟨⟨a2, g, 0, c2⟩, congrArg Ending.returned h1, cpi_of h2 h3, HE.out⟩
theorem cloneB_any (p : Plc) (n : Nat) (f : Nat → Int) (w : World) (hB : BSeg w p.ad p.b p.off n f) (hn : n ≤ 1099511627776) : Calls Tryz.prog 66 #[.slice p.ad n p.cap] w fun e w' => ∃ q : Plc, e = .returned (.slice q.ad n q.cap) ∧ CpBs w w' n f q ∧ Ext w w' := by
 refine (clone_any p.ad p.b p.off n p.cap f w hB hn).mono ?_
 rintro e w' ⟨v, rfl, hO, hE⟩
 obtain ⟨a2, g, c2, h1, h2, -, -, h3⟩ := owns_seg hO
 exact ⟨⟨a2, g, 0, c2⟩, congrArg Ending.returned h1, cpb_of h2 h3, hE⟩
end Go.Proofs.YtfhiiakoilkbkaaGreatDoor
