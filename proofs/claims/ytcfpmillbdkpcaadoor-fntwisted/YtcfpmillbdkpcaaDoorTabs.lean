/- Walks: a root that is wanted, of the program. -/
import Derived.Test.YtcfpmillbdkpcaaDoorRoot2
import Derived.Test.YtcfpmillbdkpcaaDoorFace
import Derived.Test.YtcfpmillbdkpcaaDoorBlk
namespace Go.Proofs.YtcfpmillbdkpcaaDoor
set_option linter.unusedVariables false
open Go.RowKit

theorem Tab.one {w : World} (h : Tab w) : 1 < w.heap.size := World.block_lt_of_cell? _ _ (h 0 (by omega))
theorem Tab.below {w w' : World} (h : Tab w) {S : Nat} (hb : Below S w w') (hS : 1 < S) : Tab w' := fun j hj => (hb.cell (p := ⟨1, j, none⟩) hS).trans (h j hj)
theorem Tab.all {w w' : World} (h : Tab w) (hb : Below w.heap.size w w') : Tab w' := h.below hb h.one
theorem Tab.ext {w w' : World} (h : Tab w) (hb : Ext w w') : Tab w' := h.all hb
theorem Tab.reC {X : Nat → Prop} {w : World} (h : Tab w) (hX : ¬ X 1) (p : ReC X w) : Tab p.val := fun j hj => cell_reC (h j hj) hX p

theorem rootAns_some (a p : Int) (hp : RootOk a p) : ∃ v ok, RootAns a p v ok := by
  by_cases h : ∃ n : Nat, (n : Int) * n % p = a
  · have hex : ∃ n : Nat, ((n : Int) * n % p = a ∧ ∀ m : Nat, m < n → ¬ (m : Int) * m % p = a) := by
      obtain ⟨n, hn⟩ := h
      induction n using Nat.strongRecOn with
      | ind n ih =>
        by_cases k : ∃ m : Nat, m < n ∧ (m : Int) * m % p = a
        · obtain ⟨m, hm, hm'⟩ := k
          exact ih m hm hm'
        · exact ⟨n, hn, fun m hm hm' => k ⟨m, hm, hm'⟩⟩
    obtain ⟨n, hn, hl⟩ := hex
    refine ⟨n, true, fun _ => ⟨hp, by omega, hn, ?_⟩, fun h => by simp at h⟩
    intro x h0 h1
    obtain ⟨y, rfl⟩ := Int.eq_ofNat_of_zero_le h0
    exact hl y (by omega)
  · refine ⟨0, false, fun h => by simp at h, fun _ => ⟨rfl, ?_⟩⟩
    rintro ⟨_, x, h0, hx⟩
    obtain ⟨y, rfl⟩ := Int.eq_ofNat_of_zero_le h0
    exact h ⟨y, hx⟩

theorem implRootInt_at {a p v : Int} {ok : Bool} (hA : RootAns a p v ok) (h0 : 0 ≤ p) (h1 : p ≤ 9223372036854775807) (w : World) (hT : Tab w) : Calls Tryd.prog 131 #[.int .i64 a, .int .i64 p] w fun r w' => r = .returned (.tuple #[.int .i64 v, .bool ok]) ∧ w' = w := by
  refine (implRootInt_any a p w hT (by omega) h1).mono ?_
  rintro r w' ⟨⟨v', ok', rfl, hA'⟩, rfl⟩
  obtain ⟨rfl, rfl⟩ := hA.unique hA'
  exact ⟨rfl, rfl⟩

theorem wantedRoot_yes {a p v : Int} (hA : RootAns a p v true) (h0 : 0 ≤ p) (h1 : p ≤ 9223372036854775807) (w : World) (hT : Tab w) : Calls Tryd.prog 123 #[.int .i64 a, .int .i64 p] w fun e w' => e = .returned (.int .i64 v) ∧ Ext w w' := by
  have HR := hide (implRootInt_at hA h0 h1 w hT)
  clear hA hT
  go_enter Tryd.func123, Tryd.ntmps123
  go_wp2_with fail
  refine HR.out.mono ?_
  rintro r w' ⟨rfl, rfl⟩
  go_wp2_with fail
  refine (want_yes _).mono ?_
  rintro r w'' ⟨rfl, rfl⟩
  go_wp2
  go_ret
  exact ⟨rfl, Ext.refl _⟩

theorem wantedRoot_no {a p : Int} (hA : RootAns a p 0 false) (h0 : 0 ≤ p) (h1 : p ≤ 9223372036854775807) (w : World) (hT : Tab w) : Calls Tryd.prog 123 #[.int .i64 a, .int .i64 p] w fun e w' => e = .panicked [nrE] ∧ Ext w w' := by
  have HR := hide (implRootInt_at hA h0 h1 w hT)
  clear hA hT
  go_enter Tryd.func123, Tryd.ntmps123
  go_wp2_with fail
  refine HR.out.mono ?_
  rintro r w' ⟨rfl, rfl⟩
  go_wp2_with fail
  refine (want_no _).mono ?_
  rintro r w'' ⟨rfl, rfl⟩
  exact ⟨rfl, rfl, Ext.refl _⟩

end Go.Proofs.YtcfpmillbdkpcaaDoor
