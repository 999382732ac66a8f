/- Walks: the model's Part. -/
import Derived.Test.YtboaiojapgiedaaPtS
import Derived.Test.YtboaiojapgiedaaNatOk
import Derived.Test.YtboaiojapgiedaaChS
import Derived.Test.YtboaiojapgiedaaChW
namespace Go.Proofs.Ytboaiojapgiedaa
set_option linter.unusedVariables false
set_option linter.unusedSimpArgs false
open Go.RowKit

theorem ownsRow_keep {w w' : World} {B B' e s n : Nat} {v : Value} {xs : List Value} (ho : w.ownsRow B e s v n xs) (hB : B' ≤ B) (h : ∀ g, v.ownBlock = some g → w'.heap[g]? = w.heap[g]?) : w'.ownsRow B' e s v n xs := by
  refine ⟨ho.1, ?_⟩
  rcases ho.2 with h0 | ⟨g, cap, cur, rfl, hb, hg, rest⟩
  · exact .inl h0
  · exact .inr ⟨g, cap, cur, rfl, Nat.le_trans hB hb, (h g rfl).trans hg, rest⟩

theorem BOwn.of_blk {w w' : World} {a : Option Addr} {b o n : Nat} {f : Nat → Int} (h : BOwn w a b o n f) (hb : 0 < n → w'.heap[b]? = w.heap[b]?) : BOwn w' a b o n f :=
  ⟨⟨h.at', fun i hi => (World.cell?_of_block (a := ⟨b, o + i, none⟩) (hb (by omega))).trans (h.cell i hi)⟩, fun i hi => (World.frozen?_of_block (a := ⟨b, o + i, none⟩) (hb (by omega))).trans (h.free i hi)⟩

theorem IAcc.keep {B B' : Nat} {W w' : World} {v : Value} {m : Nat} {y : Nat → It} (h : IAcc B W v m y) (hB : B' ≤ B) (h1 : ∀ g, v.ownBlock = some g → w'.heap[g]? = W.heap[g]?) (h2 : ∀ i, i < m → 0 < (y i).len → w'.heap[(y i).blk]? = W.heap[(y i).blk]?) : IAcc B' w' v m y :=
  ⟨ownsRow_keep h.row hB h1, fun i hi => (h.body i hi).of_blk (h2 i hi), fun i hi h0 => ⟨(h.away i hi h0).1, Nat.le_trans hB (h.away i hi h0).2⟩, h.apart⟩
theorem IAcc.base {B B' : Nat} {W : World} {v : Value} {m : Nat} {y : Nat → It} (h : IAcc B W v m y) (hB : B' ≤ B) : IAcc B' W v m y := h.keep hB (fun _ _ => rfl) (fun _ _ _ => rfl)

/-- How many items the part has. -/
def ptM (x : Nat → It) (n : Nat) (z : Int) : Nat := if hasB x n z then (endF (fun j => (x j).kid) n 13 z.toNat - z).toNat else 0
/-- A new list of the m items from i on, and ok. -/
def GivesP (w : World) (x : Nat → It) (i m : Nat) (ok : Bool) (e : Ending) (w' : World) : Prop := ∃ v y, e = .returned (.tuple #[v, .bool ok]) ∧ IAcc w.heap.size w' v m y ∧ SameI y x i m ∧ Ext w w'

theorem ptM_of {x : Nat → It} {n i e : Nat} (hb : hasB x n (i : Int) = true) (he : endF (fun j => (x j).kid) n 13 i = (e : Int)) (hie : i < e) : ptM x n (i : Int) = e - i := by
  unfold ptM
  rw [hb, if_pos rfl, show ((i : Int)).toNat = i from rfl, he]
  omega

set_option maxHeartbeats 1600000 in
set_option maxRecDepth 100000 in
theorem specPart_any (a : Option Addr) (b off n cap : Nat) (x : Nat → It) (z : Int) (w : World) (hs : ISeg w a b off n x) (hn : n ≤ 1048576) (hz : z ≤ 9223372036854775807) (hl : ∀ i, i < n → (x i).len ≤ 1048576) :
    Calls Try.prog 7 #[.slice a n cap, .int .i64 z] w fun e w' => GivesP w x z.toNat (ptM x n z) (hasB x n z) e w' := by
  have HT := hide (specTree_any a b off n cap x w hs hn)
  have hwr : wrap64 ((n : Int) - 1) = (n : Int) - 1 := by unfold wrap64; omega
  cases htr : treeV x n
  · have hm : hasB x n z = false := by unfold hasB; rw [htr]; rfl
    have hl0 : ptM x n z = 0 := by unfold ptM; rw [hm]; rfl
    rw [htr] at HT
    rw [hm, hl0]
    clear hl
    go_enter Try.func7, Try.ntmps7
    go_wp2_with (go_at_call 25; refine HT.out.mono ?_; rintro e w1 ⟨rfl, hE⟩; have HE := hide hE; clear hE)
    go_ret2
    exact ⟨_, _, rfl, (IAcc.nil _).base (Below.size HE.out), fun j hj => absurd hj (by omega), Ext.trans HE.out (Ext.alloc _ _)⟩
  · rw [htr] at HT
    obtain ⟨h1, h300, hg⟩ := tree_good htr
    obtain rfl := hs.at' (by omega)
    by_cases hin : 0 ≤ z ∧ z < n
    · obtain ⟨i, rfl⟩ := Int.eq_ofNat_of_zero_le hin.1
      have hi : i < n := by omega
      have hq : (decide ((0 : Int) ≤ (i : Int)) && decide ((i : Int) ≤ (n : Int) - 1)) = true := by simp; omega
      have HIn : Hid (∀ w, Calls Try.prog 26 #[.int .i64 (i : Int), .int .i64 0, .int .i64 ((n : Int) - 1)] w fun e w' => e = .returned (.bool true) ∧ w' = w) := fun w => by have := l1In_any (i : Int) 0 ((n : Int) - 1) w; rw [hq] at this; exact this
      have hb : hasB x n (i : Int) = true := by unfold hasB; rw [htr]; simp; omega
      obtain ⟨e, T, he, hie, hen, hT, hST⟩ := tree_part htr hi
      rw [hb, ptM_of hb he hie, show ((i : Int)).toNat = i from rfl]
      have HP : Hid (∀ W, Ext w W → Calls Try.prog 27 #[.slice (some ⟨b, off, none⟩) n cap, .int .i64 (i : Int)] W fun r w' => ∃ v, r = .returned v ∧ ∃ y, IAcc W.heap.size w' v (e - i) y ∧ SameI y x i (e - i) ∧ Ext W w') := fun W h => l7Part_any b off n cap x i e W (hs.of_all h) h300 (fun j hj => ⟨(hg j hj).2.2.2.1, (hg j hj).2.2.2.2.1⟩) hl hie hen he
      clear hs hT hST he hg hl hb htr hq hin
      go_enter Try.func7, Try.ntmps7
      go_wp2_with (first | (go_at_call 25; refine HT.out.mono ?_; rintro e' w1 ⟨rfl, hE⟩; have HE := hide hE; clear hE) | (go_at_call 26; refine (HIn.out _).mono ?_; rintro e' w2 ⟨rfl, hw⟩; obtain rfl := hw.symm) | (go_at_call 27; refine (HP.out _ HE.out).mono ?_; rintro e' w2 ⟨v, rfl, y, hA, hS, hE2⟩; have HA := hide hA; have HS := hide hS; have HE2 := hide hE2; clear hA hS hE2))
      go_ret2
      exact ⟨v, y, rfl, HA.out.base (Below.size HE.out), HS.out, Ext.trans HE.out HE2.out⟩
    · have hq : (decide ((0 : Int) ≤ z) && decide (z ≤ (n : Int) - 1)) = false := by simp; omega
      have HIn : Hid (∀ w, Calls Try.prog 26 #[.int .i64 z, .int .i64 0, .int .i64 ((n : Int) - 1)] w fun e w' => e = .returned (.bool false) ∧ w' = w) := fun w => by have := l1In_any z 0 ((n : Int) - 1) w; rw [hq] at this; exact this
      have hm : hasB x n z = false := by
        unfold hasB
        rw [htr, show (decide (0 ≤ z) && decide (z < (n : Int))) = false by simp; omega]
        rfl
      have hl0 : ptM x n z = 0 := by unfold ptM; rw [hm]; rfl
      rw [hm, hl0]
      clear hl hg
      go_enter Try.func7, Try.ntmps7
      go_wp2_with (first | (go_at_call 25; refine HT.out.mono ?_; rintro e w1 ⟨rfl, hE⟩; have HE := hide hE; clear hE) | (go_at_call 26; refine (HIn.out _).mono ?_; rintro e w2 ⟨rfl, hw⟩; obtain rfl := hw.symm))
      go_ret2
      exact ⟨_, _, rfl, (IAcc.nil _).base (Below.size HE.out), fun j hj => absurd hj (by omega), Ext.trans HE.out (Ext.alloc _ _)⟩

end Go.Proofs.Ytboaiojapgiedaa
