/- A list of items in the making by appends: its row, and bodies apart from it and from one another. -/
import Derived.Maps.AppendAt
import Derived.Test.YtgdjaapjdmancaaGreatDoorCy05
namespace Go.Proofs.YtgdjaapjdmancaaGreatDoor

section
set_option linter.unusedVariables false
set_option linter.unusedSimpArgs false

open Go.RowKit

def itW (t : It) : List Value := [.int .i64 t.tag, .slice t.ad t.len t.cap, .int .i64 t.kid]

def itsW (y : Nat → It) : Nat → List Value
  | 0 => []
  | m + 1 => itsW y m ++ itW (y m)

theorem itW_len (t : It) : (itW t).length = 3 := rfl

theorem itsW_len (y : Nat → It) : ∀ m, (itsW y m).length = m * 3
  | 0 => rfl
  | m + 1 => by rw [itsW, List.length_append, itsW_len y m, itW_len]; omega

theorem itsW_at (y : Nat → It) : ∀ m i r, i < m → r < 3 → (itsW y m)[i * 3 + r]? = (itW (y i))[r]?
  | 0, i, r, h, _ => absurd h (Nat.not_lt_zero _)
  | m + 1, i, r, h, hr => by
    rw [itsW]
    by_cases c : i < m
    · rw [List.getElem?_append_left (by rw [itsW_len]; omega)]
      exact itsW_at y m i r c hr
    · obtain rfl : i = m := by omega
      rw [List.getElem?_append_right (by rw [itsW_len]; omega), itsW_len]
      congr 1
      omega

theorem itsW_congr {y z : Nat → It} : ∀ {m : Nat}, (∀ i, i < m → y i = z i) → itsW y m = itsW z m
  | 0, _ => rfl
  | m + 1, h => by rw [itsW, itsW, itsW_congr (fun i hi => h i (by omega)), h m (by omega)]

theorem itW_one (t : It) : ∀ u ∈ itW t, u.oneCell' = true := by
  intro u hu
  simp only [itW, List.mem_cons, List.not_mem_nil, or_false] at hu
  rcases hu with rfl | rfl | rfl <;> rfl

theorem ownsRow_ext {W W' : World} {B e s n : Nat} {v : Value} {xs : List Value} (h : W.ownsRow B e s v n xs) (x : Ext W W') : W'.ownsRow B e s v n xs := by
  refine ⟨h.1, ?_⟩
  rcases h.2 with h0 | ⟨g, cap, cur, rfl, hb, hg, rest⟩
  · exact .inl h0
  · refine .inr ⟨g, cap, cur, rfl, hb, ?_, rest⟩
    have hl : g < W.heap.size := by
      by_cases c : g < W.heap.size
      · exact c
      · rw [Array.getElem?_eq_none (by omega)] at hg; exact absurd hg (by simp)
    exact (Below.block x g hl).trans hg

/-- m items made so far: v is the list. -/
structure IAcc (B : Nat) (W : World) (v : Value) (m : Nat) (y : Nat → It) : Prop where
  row : W.ownsRow B 60 3 v m (itsW y m)
  body : ∀ i, i < m → BOwn W (y i).ad (y i).blk (y i).off (y i).len (y i).f
  away : ∀ i, i < m → 0 < (y i).len → v.ownBlock ≠ some (y i).blk ∧ B ≤ (y i).blk
  apart : ∀ i j, i < m → j < m → i ≠ j → 0 < (y i).len → 0 < (y j).len → (y i).blk ≠ (y j).blk

theorem IAcc.of_all {B : Nat} {W W' : World} {v : Value} {m : Nat} {y : Nat → It} (h : IAcc B W v m y) (e : Ext W W') : IAcc B W' v m y :=
  ⟨ownsRow_ext h.row e, fun i hi => BOwn.of_all (h.body i hi) e, h.away, h.apart⟩

theorem IAcc.congr {B : Nat} {W : World} {v : Value} {m : Nat} {y z : Nat → It} (h : IAcc B W v m y) (e : ∀ i, i < m → y i = z i) : IAcc B W v m z :=
  ⟨by rw [← itsW_congr e]; exact h.row, fun i hi => by rw [← e i hi]; exact h.body i hi, fun i hi => by rw [← e i hi]; exact h.away i hi, fun i j hi hj => by rw [← e i hi, ← e j hj]; exact h.apart i j hi hj⟩

theorem IAcc.iow {B : Nat} {W : World} {v : Value} {m : Nat} {y : Nat → It} (h : IAcc B W v m y) (hs : ∀ i, i < m → (y i).len ≤ 9223372036854775807) : ∃ a S cap, v = .slice a m cap ∧ IOw B W a S 0 m y := by
  have hr := h.row
  rcases h.row.2 with ⟨rfl, rfl⟩ | ⟨g, cap, cur, rfl, hb, hg, hn, hm, hz, ht⟩
  · exact ⟨none, B, 0, rfl, ⟨⟨fun h => absurd h (by omega), fun i hi => absurd hi (by omega), fun i hi => absurd hi (by omega), fun i hi => absurd hi (by omega), fun i hi => absurd hi (by omega), fun i hi => absurd hi (by omega)⟩, fun o h1 h2 => absurd h2 (by omega), fun i hi => absurd hi (by omega), fun i hi => absurd hi (by omega), fun i j hi => absurd hi (by omega), fun _ => Nat.le_refl _⟩⟩
  · have hc : ∀ i r, i < m → r < 3 → W.cell? ⟨g, 0 + i * 3 + r, none⟩ = (itW (y i))[r]? := fun i r hi hr3 => by
      rw [World.ownsRow.cellAt hr (0 + i * 3 + r) (by omega), ← itsW_at y m i r hi hr3]
      congr 1
      omega
    exact ⟨_, g, cap, rfl, ⟨⟨fun _ => rfl, fun i hi => hc i 0 hi (by omega), fun i hi => hc i 1 hi (by omega), fun i hi => hc i 2 hi (by omega), fun i hi => (h.body i hi).toBSeg, hs⟩, fun o _ _ => World.ownsRow.frozenAt hr o, fun i hi => (h.body i hi).free, fun i hi h0 => ⟨fun e => (h.away i hi h0).1 (by rw [e]; rfl), (h.away i hi h0).2⟩, h.apart, fun _ => hb⟩⟩

/-- One item more: its body is new, and apart. -/
theorem IAcc.step {B : Nat} {W W2 w1 : World} {v v' : Value} {m : Nat} {y : Nat → It} {t : It} (h : IAcc B W v m y) (e : Ext W W2)
    (hb : BOwn W2 t.ad t.blk t.off t.len t.f) (hB : 0 < t.len → B ≤ t.blk) (hv : 0 < t.len → v.ownBlock ≠ some t.blk) (ha : ∀ i, i < m → 0 < (y i).len → 0 < t.len → (y i).blk ≠ t.blk)
    (hown : w1.ownsRow B 60 3 v' (m + 1) (itsW y m ++ itW t)) (hg : W2.grownBy w1 v.ownBlock) (hat : v'.ownBlock = v.ownBlock ∨ v'.ownBlock = some W2.heap.size) :
    IAcc B w1 v' (m + 1) (updI y m t) := by
  have hk : ∀ {a : Option Addr} {b o n : Nat} {f : Nat → Int}, BOwn W2 a b o n f → (0 < n → v.ownBlock ≠ some b) → BOwn w1 a b o n f ∧ (0 < n → v'.ownBlock ≠ some b) := fun {a b o n f} hO hne => by
    refine ⟨?_, fun h0 hh => ?_⟩
    · by_cases c : 0 < n
      · have hbl : w1.heap[b]? = W2.heap[b]? := hg.block b (hO.lt c) (fun hh => hne c hh.symm)
        exact ⟨⟨hO.at', fun i hi => (World.cell?_of_block (a := ⟨b, o + i, none⟩) hbl).trans (hO.cell i hi)⟩, fun i hi => (World.frozen?_of_block (a := ⟨b, o + i, none⟩) hbl).trans (hO.free i hi)⟩
      · rw [show n = 0 by omega]; exact BOwn.nil _ _ _ _ _
    · rcases hat with h1 | h1
      · exact hne h0 (by rw [← h1]; exact hh)
      · rw [h1] at hh
        simp only [Option.some.injEq] at hh
        have := hO.lt h0
        omega
  have hy : ∀ i, i < m → updI y m t i = y i := fun i hi => updI_other _ _ (by omega)
  have hO := fun i (hi : i < m) => hk (BOwn.of_all (h.body i hi) e) (fun h0 => (h.away i hi h0).1)
  have hT := hk hb hv
  refine ⟨?_, fun i hi => ?_, fun i hi => ?_, fun i j hi hj hij => ?_⟩
  · rw [itsW, updI_same, itsW_congr hy]; exact hown
  · by_cases c : i = m
    · subst c; rw [updI_same]; exact hT.1
    · rw [updI_other _ _ c]; exact (hO i (by omega)).1
  · by_cases c : i = m
    · subst c; rw [updI_same]; exact fun h0 => ⟨hT.2 h0, hB h0⟩
    · rw [updI_other _ _ c]; exact fun h0 => ⟨(hO i (by omega)).2 h0, (h.away i (by omega) h0).2⟩
  · by_cases c : i = m
    · have c2 : j ≠ m := fun e2 => hij (c.trans e2.symm)
      rw [updI_other _ _ c2, c, updI_same]
      exact fun h1 h2 hh => ha j (by omega) h2 h1 hh.symm
    · rw [updI_other _ _ c]
      by_cases c2 : j = m
      · rw [c2, updI_same]; exact fun h1 h2 => ha i (by omega) h1 h2
      · rw [updI_other _ _ c2]; exact h.apart i j (by omega) (by omega) hij
end

end Go.Proofs.YtgdjaapjdmancaaGreatDoor
