/- Walks of the model's draws of names, and of the law FnNames10 (written by mknm.py). -/
import Derived.Test.YtdaneanloknkpaaDoorNmx
import Derived.Test.YtdaneanloknkpaaDoorDrS
namespace Go.Proofs.YtdaneanloknkpaaDoor
set_option linter.unusedVariables false
set_option linter.unusedSimpArgs false
open Go.RowKit

def whoL (k : Nat) : List ByteArray := ([([⟨#[82, 111, 111, 116, 32, 79, 110, 101]⟩] : List ByteArray), ([⟨#[82, 111, 111, 116]⟩, ⟨#[84, 119, 111]⟩] : List ByteArray), ([⟨#[77, 105, 100, 32, 65]⟩] : List ByteArray), ([⟨#[77, 105, 100, 32, 66]⟩] : List ByteArray), ([⟨#[76, 101, 97, 102]⟩] : List ByteArray), ([⟨#[79, 116, 104, 101, 114]⟩, ⟨#[120, 32, 121]⟩] : List ByteArray)] : List (List ByteArray)).getD k []

theorem who_len : ∀ k, k < 6 → 1 ≤ (whoL k).length ∧ (whoL k).length ≤ 2 ∧ ∀ x ∈ whoL k, x.size ≤ 64 := by decide
def wideS (s : ByteArray) : ByteArray := ⟨#[32, 32]⟩ ++ s ++ ⟨#[32]⟩
theorem who_wide : ∀ k, k < 6 → ∀ i, i < (whoL k).length → eqS (plainS (nth (whoL k) i)) (plainS (nth ((whoL k).map wideS) i)) = true := by decide +kernel
theorem aab : eqS (plainS ⟨#[65, 97, 32, 32, 66]⟩) (plainS ⟨#[97, 65, 32, 98]⟩) = true := by decide +kernel

theorem SSeg.touch {w w' : World} {a : Option Addr} {b off n C : Nat} {f : Nat → ByteArray} (h : SSeg w a b off n f) (t : Touch C w w') (hC : b ≠ C) : SSeg w' a b off n f :=
  ⟨h.at', fun i hi => (World.cell?_of_block (a := ⟨b, off + i, none⟩) (t.grown.block b (h.lt (by omega)) (by simp; exact hC))).trans (h.cell i hi)⟩
theorem row_touch {w w' : World} {B e n C : Nat} {v : Value} {xs : List Value} (h : w.ownsRow B e 1 v n xs) (t : Touch C w w') (hC : v.ownBlock ≠ some C) : w'.ownsRow B e 1 v n xs := by
  refine ⟨h.1, ?_⟩
  rcases h.2 with h0 | ⟨g, cap, cur, rfl, hb, hg, rest⟩
  · exact .inl h0
  · exact .inr ⟨g, cap, cur, rfl, hb, (t.grown.block g (Array.getElem?_eq_some_iff.1 hg).1 (fun e => hC (by simpa [Value.ownBlock] using e))).trans hg, rest⟩
theorem row_seg {w : World} {B : Nat} {v : Value} {L : List ByteArray} (h : w.ownsRow B 9 1 v L.length (strs L)) : ∃ a g cap, v = .slice a L.length cap ∧ SSeg w a g 0 L.length (nth L) := by
  by_cases h0 : 1 ≤ L.length
  · obtain ⟨g, cap, rfl, hc⟩ := owns_strs h h0
    exact ⟨_, g, cap, rfl, ⟨fun _ => rfl, fun i hi => by rw [Nat.zero_add]; exact hc i hi⟩⟩
  · obtain ⟨a, cap, rfl⟩ := row_slice h
    exact ⟨a, 0, cap, rfl, ⟨fun h => by omega, fun i hi => by omega⟩⟩

/-- One of the names. -/
def GivesW (w : World) (L : List ByteArray) (e : Ending) (w' : World) : Prop :=
  ∃ g, e = .returned (.slice (some ⟨g, 0, none⟩) L.length L.length) ∧ w.heap.size ≤ g ∧ SSeg w' (some ⟨g, 0, none⟩) g 0 L.length (nth L) ∧ Ext w w'

theorem push7 (h : Array Obj) (a b c d e f g : Obj) : (((((((h.push a).push b).push c).push d).push e).push f).push g)[h.size + 0]? = some a ∧ (((((((h.push a).push b).push c).push d).push e).push f).push g)[h.size + 1]? = some b ∧ (((((((h.push a).push b).push c).push d).push e).push f).push g)[h.size + 2]? = some c ∧ (((((((h.push a).push b).push c).push d).push e).push f).push g)[h.size + 3]? = some d ∧ (((((((h.push a).push b).push c).push d).push e).push f).push g)[h.size + 4]? = some e ∧ (((((((h.push a).push b).push c).push d).push e).push f).push g)[h.size + 5]? = some f := by
  refine ⟨?_, ?_, ?_, ?_, ?_, ?_⟩
  all_goals
    simp only [Array.getElem?_push, Array.size_push]
    repeat (first | rw [if_neg (by omega)] | rw [if_pos (by omega)])
  all_goals exact if_pos trivial

set_option maxHeartbeats 1600000 in
set_option maxRecDepth 100000 in
theorem l10Who_0 (w : World) : Calls Tryd.prog 16 #[.int .i64 0] w fun e w' => GivesW w ([⟨#[82, 111, 111, 116, 32, 79, 110, 101]⟩] : List ByteArray) e w' := by
  have hE : ∀ o : Obj, Ext w ((((((((w.alloc (.cells #[.string ⟨#[82, 111, 111, 116, 32, 79, 110, 101]⟩] 9)).alloc (.cells #[.string ⟨#[82, 111, 111, 116]⟩, .string ⟨#[84, 119, 111]⟩] 9)).alloc (.cells #[.string ⟨#[77, 105, 100, 32, 65]⟩] 9)).alloc (.cells #[.string ⟨#[77, 105, 100, 32, 66]⟩] 9)).alloc (.cells #[.string ⟨#[76, 101, 97, 102]⟩] 9)).alloc (.cells #[.string ⟨#[79, 116, 104, 101, 114]⟩, .string ⟨#[120, 32, 121]⟩] 9))).alloc o) := fun o => Ext.trans (Ext.trans (Ext.trans (Ext.trans (Ext.trans (Ext.trans (Ext.alloc _ _) (Ext.alloc _ _)) (Ext.alloc _ _)) (Ext.alloc _ _)) (Ext.alloc _ _)) (Ext.alloc _ _)) (Ext.alloc _ _)
  have hB : ∀ o : Obj, ((((((((w.alloc (.cells #[.string ⟨#[82, 111, 111, 116, 32, 79, 110, 101]⟩] 9)).alloc (.cells #[.string ⟨#[82, 111, 111, 116]⟩, .string ⟨#[84, 119, 111]⟩] 9)).alloc (.cells #[.string ⟨#[77, 105, 100, 32, 65]⟩] 9)).alloc (.cells #[.string ⟨#[77, 105, 100, 32, 66]⟩] 9)).alloc (.cells #[.string ⟨#[76, 101, 97, 102]⟩] 9)).alloc (.cells #[.string ⟨#[79, 116, 104, 101, 114]⟩, .string ⟨#[120, 32, 121]⟩] 9))).alloc o).heap[w.heap.size + 0]? = some (.cells #[.string ⟨#[82, 111, 111, 116, 32, 79, 110, 101]⟩] 9) := fun o => (push7 w.heap _ _ _ _ _ _ o).1
  have hc : ∀ i, i < 1 → (#[.string ⟨#[82, 111, 111, 116, 32, 79, 110, 101]⟩] : Array Value)[i]? = some (.string (nth ([⟨#[82, 111, 111, 116, 32, 79, 110, 101]⟩] : List ByteArray) i)) := fun i hi => by
    match i, hi with
    | 0, _ => exact rfl
    | i + 1, h => exact absurd h (by omega)
  have HE := hide hE
  have HB := hide hB
  have Hc := hide hc
  clear hE hB hc
  go_enter Tryd.func16, Tryd.ntmps16
  go_wp2
  go_ret
  refine ⟨w.heap.size + 0, rfl, by omega, ⟨fun _ => rfl, fun i hi => ?_⟩, HE.out _⟩
  rw [Nat.zero_add]
  simp only [World.cell?, HB.out]
  exact Hc.out i hi

set_option maxHeartbeats 1600000 in
set_option maxRecDepth 100000 in
theorem l10Who_1 (w : World) : Calls Tryd.prog 16 #[.int .i64 1] w fun e w' => GivesW w ([⟨#[82, 111, 111, 116]⟩, ⟨#[84, 119, 111]⟩] : List ByteArray) e w' := by
  have hE : ∀ o : Obj, Ext w ((((((((w.alloc (.cells #[.string ⟨#[82, 111, 111, 116, 32, 79, 110, 101]⟩] 9)).alloc (.cells #[.string ⟨#[82, 111, 111, 116]⟩, .string ⟨#[84, 119, 111]⟩] 9)).alloc (.cells #[.string ⟨#[77, 105, 100, 32, 65]⟩] 9)).alloc (.cells #[.string ⟨#[77, 105, 100, 32, 66]⟩] 9)).alloc (.cells #[.string ⟨#[76, 101, 97, 102]⟩] 9)).alloc (.cells #[.string ⟨#[79, 116, 104, 101, 114]⟩, .string ⟨#[120, 32, 121]⟩] 9))).alloc o) := fun o => Ext.trans (Ext.trans (Ext.trans (Ext.trans (Ext.trans (Ext.trans (Ext.alloc _ _) (Ext.alloc _ _)) (Ext.alloc _ _)) (Ext.alloc _ _)) (Ext.alloc _ _)) (Ext.alloc _ _)) (Ext.alloc _ _)
  have hB : ∀ o : Obj, ((((((((w.alloc (.cells #[.string ⟨#[82, 111, 111, 116, 32, 79, 110, 101]⟩] 9)).alloc (.cells #[.string ⟨#[82, 111, 111, 116]⟩, .string ⟨#[84, 119, 111]⟩] 9)).alloc (.cells #[.string ⟨#[77, 105, 100, 32, 65]⟩] 9)).alloc (.cells #[.string ⟨#[77, 105, 100, 32, 66]⟩] 9)).alloc (.cells #[.string ⟨#[76, 101, 97, 102]⟩] 9)).alloc (.cells #[.string ⟨#[79, 116, 104, 101, 114]⟩, .string ⟨#[120, 32, 121]⟩] 9))).alloc o).heap[w.heap.size + 1]? = some (.cells #[.string ⟨#[82, 111, 111, 116]⟩, .string ⟨#[84, 119, 111]⟩] 9) := fun o => (push7 w.heap _ _ _ _ _ _ o).2.1
  have hc : ∀ i, i < 2 → (#[.string ⟨#[82, 111, 111, 116]⟩, .string ⟨#[84, 119, 111]⟩] : Array Value)[i]? = some (.string (nth ([⟨#[82, 111, 111, 116]⟩, ⟨#[84, 119, 111]⟩] : List ByteArray) i)) := fun i hi => by
    match i, hi with
    | 0, _ => exact rfl
    | 1, _ => exact rfl
    | i + 2, h => exact absurd h (by omega)
  have HE := hide hE
  have HB := hide hB
  have Hc := hide hc
  clear hE hB hc
  go_enter Tryd.func16, Tryd.ntmps16
  go_wp2
  go_ret
  refine ⟨w.heap.size + 1, rfl, by omega, ⟨fun _ => rfl, fun i hi => ?_⟩, HE.out _⟩
  rw [Nat.zero_add]
  simp only [World.cell?, HB.out]
  exact Hc.out i hi

set_option maxHeartbeats 1600000 in
set_option maxRecDepth 100000 in
theorem l10Who_2 (w : World) : Calls Tryd.prog 16 #[.int .i64 2] w fun e w' => GivesW w ([⟨#[77, 105, 100, 32, 65]⟩] : List ByteArray) e w' := by
  have hE : ∀ o : Obj, Ext w ((((((((w.alloc (.cells #[.string ⟨#[82, 111, 111, 116, 32, 79, 110, 101]⟩] 9)).alloc (.cells #[.string ⟨#[82, 111, 111, 116]⟩, .string ⟨#[84, 119, 111]⟩] 9)).alloc (.cells #[.string ⟨#[77, 105, 100, 32, 65]⟩] 9)).alloc (.cells #[.string ⟨#[77, 105, 100, 32, 66]⟩] 9)).alloc (.cells #[.string ⟨#[76, 101, 97, 102]⟩] 9)).alloc (.cells #[.string ⟨#[79, 116, 104, 101, 114]⟩, .string ⟨#[120, 32, 121]⟩] 9))).alloc o) := fun o => Ext.trans (Ext.trans (Ext.trans (Ext.trans (Ext.trans (Ext.trans (Ext.alloc _ _) (Ext.alloc _ _)) (Ext.alloc _ _)) (Ext.alloc _ _)) (Ext.alloc _ _)) (Ext.alloc _ _)) (Ext.alloc _ _)
  have hB : ∀ o : Obj, ((((((((w.alloc (.cells #[.string ⟨#[82, 111, 111, 116, 32, 79, 110, 101]⟩] 9)).alloc (.cells #[.string ⟨#[82, 111, 111, 116]⟩, .string ⟨#[84, 119, 111]⟩] 9)).alloc (.cells #[.string ⟨#[77, 105, 100, 32, 65]⟩] 9)).alloc (.cells #[.string ⟨#[77, 105, 100, 32, 66]⟩] 9)).alloc (.cells #[.string ⟨#[76, 101, 97, 102]⟩] 9)).alloc (.cells #[.string ⟨#[79, 116, 104, 101, 114]⟩, .string ⟨#[120, 32, 121]⟩] 9))).alloc o).heap[w.heap.size + 2]? = some (.cells #[.string ⟨#[77, 105, 100, 32, 65]⟩] 9) := fun o => (push7 w.heap _ _ _ _ _ _ o).2.2.1
  have hc : ∀ i, i < 1 → (#[.string ⟨#[77, 105, 100, 32, 65]⟩] : Array Value)[i]? = some (.string (nth ([⟨#[77, 105, 100, 32, 65]⟩] : List ByteArray) i)) := fun i hi => by
    match i, hi with
    | 0, _ => exact rfl
    | i + 1, h => exact absurd h (by omega)
  have HE := hide hE
  have HB := hide hB
  have Hc := hide hc
  clear hE hB hc
  go_enter Tryd.func16, Tryd.ntmps16
  go_wp2
  go_ret
  refine ⟨w.heap.size + 2, rfl, by omega, ⟨fun _ => rfl, fun i hi => ?_⟩, HE.out _⟩
  rw [Nat.zero_add]
  simp only [World.cell?, HB.out]
  exact Hc.out i hi

set_option maxHeartbeats 1600000 in
set_option maxRecDepth 100000 in
theorem l10Who_3 (w : World) : Calls Tryd.prog 16 #[.int .i64 3] w fun e w' => GivesW w ([⟨#[77, 105, 100, 32, 66]⟩] : List ByteArray) e w' := by
  have hE : ∀ o : Obj, Ext w ((((((((w.alloc (.cells #[.string ⟨#[82, 111, 111, 116, 32, 79, 110, 101]⟩] 9)).alloc (.cells #[.string ⟨#[82, 111, 111, 116]⟩, .string ⟨#[84, 119, 111]⟩] 9)).alloc (.cells #[.string ⟨#[77, 105, 100, 32, 65]⟩] 9)).alloc (.cells #[.string ⟨#[77, 105, 100, 32, 66]⟩] 9)).alloc (.cells #[.string ⟨#[76, 101, 97, 102]⟩] 9)).alloc (.cells #[.string ⟨#[79, 116, 104, 101, 114]⟩, .string ⟨#[120, 32, 121]⟩] 9))).alloc o) := fun o => Ext.trans (Ext.trans (Ext.trans (Ext.trans (Ext.trans (Ext.trans (Ext.alloc _ _) (Ext.alloc _ _)) (Ext.alloc _ _)) (Ext.alloc _ _)) (Ext.alloc _ _)) (Ext.alloc _ _)) (Ext.alloc _ _)
  have hB : ∀ o : Obj, ((((((((w.alloc (.cells #[.string ⟨#[82, 111, 111, 116, 32, 79, 110, 101]⟩] 9)).alloc (.cells #[.string ⟨#[82, 111, 111, 116]⟩, .string ⟨#[84, 119, 111]⟩] 9)).alloc (.cells #[.string ⟨#[77, 105, 100, 32, 65]⟩] 9)).alloc (.cells #[.string ⟨#[77, 105, 100, 32, 66]⟩] 9)).alloc (.cells #[.string ⟨#[76, 101, 97, 102]⟩] 9)).alloc (.cells #[.string ⟨#[79, 116, 104, 101, 114]⟩, .string ⟨#[120, 32, 121]⟩] 9))).alloc o).heap[w.heap.size + 3]? = some (.cells #[.string ⟨#[77, 105, 100, 32, 66]⟩] 9) := fun o => (push7 w.heap _ _ _ _ _ _ o).2.2.2.1
  have hc : ∀ i, i < 1 → (#[.string ⟨#[77, 105, 100, 32, 66]⟩] : Array Value)[i]? = some (.string (nth ([⟨#[77, 105, 100, 32, 66]⟩] : List ByteArray) i)) := fun i hi => by
    match i, hi with
    | 0, _ => exact rfl
    | i + 1, h => exact absurd h (by omega)
  have HE := hide hE
  have HB := hide hB
  have Hc := hide hc
  clear hE hB hc
  go_enter Tryd.func16, Tryd.ntmps16
  go_wp2
  go_ret
  refine ⟨w.heap.size + 3, rfl, by omega, ⟨fun _ => rfl, fun i hi => ?_⟩, HE.out _⟩
  rw [Nat.zero_add]
  simp only [World.cell?, HB.out]
  exact Hc.out i hi

set_option maxHeartbeats 1600000 in
set_option maxRecDepth 100000 in
theorem l10Who_4 (w : World) : Calls Tryd.prog 16 #[.int .i64 4] w fun e w' => GivesW w ([⟨#[76, 101, 97, 102]⟩] : List ByteArray) e w' := by
  have hE : ∀ o : Obj, Ext w ((((((((w.alloc (.cells #[.string ⟨#[82, 111, 111, 116, 32, 79, 110, 101]⟩] 9)).alloc (.cells #[.string ⟨#[82, 111, 111, 116]⟩, .string ⟨#[84, 119, 111]⟩] 9)).alloc (.cells #[.string ⟨#[77, 105, 100, 32, 65]⟩] 9)).alloc (.cells #[.string ⟨#[77, 105, 100, 32, 66]⟩] 9)).alloc (.cells #[.string ⟨#[76, 101, 97, 102]⟩] 9)).alloc (.cells #[.string ⟨#[79, 116, 104, 101, 114]⟩, .string ⟨#[120, 32, 121]⟩] 9))).alloc o) := fun o => Ext.trans (Ext.trans (Ext.trans (Ext.trans (Ext.trans (Ext.trans (Ext.alloc _ _) (Ext.alloc _ _)) (Ext.alloc _ _)) (Ext.alloc _ _)) (Ext.alloc _ _)) (Ext.alloc _ _)) (Ext.alloc _ _)
  have hB : ∀ o : Obj, ((((((((w.alloc (.cells #[.string ⟨#[82, 111, 111, 116, 32, 79, 110, 101]⟩] 9)).alloc (.cells #[.string ⟨#[82, 111, 111, 116]⟩, .string ⟨#[84, 119, 111]⟩] 9)).alloc (.cells #[.string ⟨#[77, 105, 100, 32, 65]⟩] 9)).alloc (.cells #[.string ⟨#[77, 105, 100, 32, 66]⟩] 9)).alloc (.cells #[.string ⟨#[76, 101, 97, 102]⟩] 9)).alloc (.cells #[.string ⟨#[79, 116, 104, 101, 114]⟩, .string ⟨#[120, 32, 121]⟩] 9))).alloc o).heap[w.heap.size + 4]? = some (.cells #[.string ⟨#[76, 101, 97, 102]⟩] 9) := fun o => (push7 w.heap _ _ _ _ _ _ o).2.2.2.2.1
  have hc : ∀ i, i < 1 → (#[.string ⟨#[76, 101, 97, 102]⟩] : Array Value)[i]? = some (.string (nth ([⟨#[76, 101, 97, 102]⟩] : List ByteArray) i)) := fun i hi => by
    match i, hi with
    | 0, _ => exact rfl
    | i + 1, h => exact absurd h (by omega)
  have HE := hide hE
  have HB := hide hB
  have Hc := hide hc
  clear hE hB hc
  go_enter Tryd.func16, Tryd.ntmps16
  go_wp2
  go_ret
  refine ⟨w.heap.size + 4, rfl, by omega, ⟨fun _ => rfl, fun i hi => ?_⟩, HE.out _⟩
  rw [Nat.zero_add]
  simp only [World.cell?, HB.out]
  exact Hc.out i hi

set_option maxHeartbeats 1600000 in
set_option maxRecDepth 100000 in
theorem l10Who_5 (w : World) : Calls Tryd.prog 16 #[.int .i64 5] w fun e w' => GivesW w ([⟨#[79, 116, 104, 101, 114]⟩, ⟨#[120, 32, 121]⟩] : List ByteArray) e w' := by
  have hE : ∀ o : Obj, Ext w ((((((((w.alloc (.cells #[.string ⟨#[82, 111, 111, 116, 32, 79, 110, 101]⟩] 9)).alloc (.cells #[.string ⟨#[82, 111, 111, 116]⟩, .string ⟨#[84, 119, 111]⟩] 9)).alloc (.cells #[.string ⟨#[77, 105, 100, 32, 65]⟩] 9)).alloc (.cells #[.string ⟨#[77, 105, 100, 32, 66]⟩] 9)).alloc (.cells #[.string ⟨#[76, 101, 97, 102]⟩] 9)).alloc (.cells #[.string ⟨#[79, 116, 104, 101, 114]⟩, .string ⟨#[120, 32, 121]⟩] 9))).alloc o) := fun o => Ext.trans (Ext.trans (Ext.trans (Ext.trans (Ext.trans (Ext.trans (Ext.alloc _ _) (Ext.alloc _ _)) (Ext.alloc _ _)) (Ext.alloc _ _)) (Ext.alloc _ _)) (Ext.alloc _ _)) (Ext.alloc _ _)
  have hB : ∀ o : Obj, ((((((((w.alloc (.cells #[.string ⟨#[82, 111, 111, 116, 32, 79, 110, 101]⟩] 9)).alloc (.cells #[.string ⟨#[82, 111, 111, 116]⟩, .string ⟨#[84, 119, 111]⟩] 9)).alloc (.cells #[.string ⟨#[77, 105, 100, 32, 65]⟩] 9)).alloc (.cells #[.string ⟨#[77, 105, 100, 32, 66]⟩] 9)).alloc (.cells #[.string ⟨#[76, 101, 97, 102]⟩] 9)).alloc (.cells #[.string ⟨#[79, 116, 104, 101, 114]⟩, .string ⟨#[120, 32, 121]⟩] 9))).alloc o).heap[w.heap.size + 5]? = some (.cells #[.string ⟨#[79, 116, 104, 101, 114]⟩, .string ⟨#[120, 32, 121]⟩] 9) := fun o => (push7 w.heap _ _ _ _ _ _ o).2.2.2.2.2
  have hc : ∀ i, i < 2 → (#[.string ⟨#[79, 116, 104, 101, 114]⟩, .string ⟨#[120, 32, 121]⟩] : Array Value)[i]? = some (.string (nth ([⟨#[79, 116, 104, 101, 114]⟩, ⟨#[120, 32, 121]⟩] : List ByteArray) i)) := fun i hi => by
    match i, hi with
    | 0, _ => exact rfl
    | 1, _ => exact rfl
    | i + 2, h => exact absurd h (by omega)
  have HE := hide hE
  have HB := hide hB
  have Hc := hide hc
  clear hE hB hc
  go_enter Tryd.func16, Tryd.ntmps16
  go_wp2
  go_ret
  refine ⟨w.heap.size + 5, rfl, by omega, ⟨fun _ => rfl, fun i hi => ?_⟩, HE.out _⟩
  rw [Nat.zero_add]
  simp only [World.cell?, HB.out]
  exact Hc.out i hi

theorem l10Who_any (k : Nat) (hk : k < 6) (w : World) :
    Calls Tryd.prog 16 #[.int .i64 (k : Int)] w fun e w' => GivesW w (whoL k) e w' := by
  match k, hk with
  | 0, _ => exact l10Who_0 w
  | 1, _ => exact l10Who_1 w
  | 2, _ => exact l10Who_2 w
  | 3, _ => exact l10Who_3 w
  | 4, _ => exact l10Who_4 w
  | 5, _ => exact l10Who_5 w

end Go.Proofs.YtdaneanloknkpaaDoor
