/- Lists as fields of a copy: one's own, and where they lie. -/
import Derived.Test.YtgdjaapjdmancaaGreatDoorCy17
import Derived.Test.YtgdjaapjdmancaaGreatDoorCy32
namespace Go.Proofs.YtgdjaapjdmancaaGreatDoor

section
set_option linter.unusedVariables false
set_option linter.unusedSimpArgs false
set_option maxRecDepth 100000

open Go.RowKit

theorem Own.of_blk {w w' : World} {a : Option Addr} {g off n : Nat} {f : Nat → Int} (h : Own w a g off n f) (e : 0 < n → w'.heap[g]? = w.heap[g]?) : Own w' a g off n f :=
  ⟨⟨h.at', fun i hi => (World.cell?_of_block (a := ⟨g, off + i, none⟩) (e (by omega))).trans (h.cell i hi)⟩, fun i hi => (World.frozen?_of_block (a := ⟨g, off + i, none⟩) (e (by omega))).trans (h.free i hi)⟩

theorem BOwn.of_blk {w w' : World} {a : Option Addr} {g off n : Nat} {f : Nat → Int} (h : BOwn w a g off n f) (e : 0 < n → w'.heap[g]? = w.heap[g]?) : BOwn w' a g off n f :=
  ⟨⟨h.at', fun i hi => (World.cell?_of_block (a := ⟨g, off + i, none⟩) (e (by omega))).trans (h.cell i hi)⟩, fun i hi => (World.frozen?_of_block (a := ⟨g, off + i, none⟩) (e (by omega))).trans (h.free i hi)⟩

theorem toStrs_kpO (p : Plc) (n : Nat) (f : Nat → ByteArray) (W : World) (hs : SSeg W p.ad p.b p.off n f) (hn : n ≤ 1048576) :
    Calls Tryz.prog 22 #[.slice p.ad n p.cap] W fun e w' => ∃ q : Plc, e = .returned (.slice q.ad n q.cap) ∧ (∀ w'', Kp W.heap.size w' w'' → (SSeg w'' q.ad q.b q.off n f ∧ SAny w'' q.ad q.b q.off n) ∧ W.heap.size ≤ q.b ∧ q.b < w'.heap.size) ∧ Ext W w' :=
  (toStringS_any p.ad p.b p.off n p.cap f W hs hn).mono fun e w' ⟨h1, h2⟩ => ⟨⟨some ⟨W.heap.size, 0, none⟩, W.heap.size, 0, n⟩, h1, fun w'' k => by
    have hl : W.heap.size < w'.heap.size := by have := h2.size; omega
    have hb := k.2 W.heap.size (Nat.le_refl _) hl
    have hc : ∀ i, i < n → w'.cell? ⟨W.heap.size, 0 + i, none⟩ = some (.string (f i)) := h2.seg.cell
    refine ⟨⟨⟨fun _ => rfl, fun i hi => (World.cell?_of_block (a := ⟨W.heap.size, 0 + i, none⟩) hb).trans (hc i hi)⟩, ⟨fun _ => rfl, fun i hi => ⟨f i, (World.cell?_of_block (a := ⟨W.heap.size, 0 + i, none⟩) hb).trans (hc i hi)⟩, fun i hi => (World.frozen?_of_block (a := ⟨W.heap.size, 0 + i, none⟩) hb).trans (h2.row.frozen _)⟩⟩, Nat.le_refl _, hl⟩, h2.below⟩

theorem toInts_kpO (p : Plc) (n : Nat) (f : Nat → Int) (W : World) (hs : Seg W p.ad p.b p.off n f) (hn : n ≤ 1048576) :
    Calls Tryz.prog 23 #[.slice p.ad n p.cap] W fun e w' => ∃ q : Plc, e = .returned (.slice q.ad n q.cap) ∧ (∀ w'', Kp W.heap.size w' w'' → (Seg w'' q.ad q.b q.off n f ∧ Own w'' q.ad q.b q.off n f) ∧ W.heap.size ≤ q.b ∧ q.b < w'.heap.size) ∧ Ext W w' :=
  (toIntS_any p.ad p.b p.off n p.cap f W hs hn).mono fun e w' ⟨h1, h2, h3, h4⟩ => ⟨⟨some ⟨W.heap.size, 0, none⟩, W.heap.size, 0, n⟩, h1, fun w'' k => by
    have hl : W.heap.size < w'.heap.size := by omega
    have hb := k.2 W.heap.size (Nat.le_refl _) hl
    have ho : Own w'' (some ⟨W.heap.size, 0, none⟩) W.heap.size 0 n f := ⟨⟨fun _ => rfl, fun i hi => (World.cell?_of_block (a := ⟨W.heap.size, 0 + i, none⟩) hb).trans (by rw [Nat.zero_add]; exact h3.cell hi)⟩, fun i hi => (World.frozen?_of_block (a := ⟨W.heap.size, 0 + i, none⟩) hb).trans (h3.frozen _)⟩
    exact ⟨⟨ho.toSeg, ho⟩, Nat.le_refl _, hl⟩, h4⟩

theorem toBytes_kpO (p : Plc) (n : Nat) (f : Nat → Int) (W : World) (hs : BSeg W p.ad p.b p.off n f) (hn : n ≤ 1048576) :
    Calls Tryz.prog 24 #[.slice p.ad n p.cap] W fun e w' => ∃ q : Plc, e = .returned (.slice q.ad n q.cap) ∧ (∀ w'', Kp W.heap.size w' w'' → (BSeg w'' q.ad q.b q.off n f ∧ BOwn w'' q.ad q.b q.off n f) ∧ W.heap.size ≤ q.b ∧ q.b < w'.heap.size) ∧ Ext W w' :=
  (toByteS_any p.ad p.b p.off n p.cap f W hs hn).mono fun e w' ⟨h1, h2, h3, h4⟩ => ⟨⟨some ⟨W.heap.size, 0, none⟩, W.heap.size, 0, n⟩, h1, fun w'' k => by
    have hl : W.heap.size < w'.heap.size := by omega
    have hb := k.2 W.heap.size (Nat.le_refl _) hl
    have ho : BOwn w'' (some ⟨W.heap.size, 0, none⟩) W.heap.size 0 n f := ⟨⟨fun _ => rfl, fun i hi => (World.cell?_of_block (a := ⟨W.heap.size, 0 + i, none⟩) hb).trans (by rw [Nat.zero_add]; exact h3.cell hi)⟩, fun i hi => (World.frozen?_of_block (a := ⟨W.heap.size, 0 + i, none⟩) hb).trans (h3.frozen _)⟩
    exact ⟨⟨ho.toBSeg, ho⟩, Nat.le_refl _, hl⟩, h4⟩
end

end Go.Proofs.YtgdjaapjdmancaaGreatDoor
