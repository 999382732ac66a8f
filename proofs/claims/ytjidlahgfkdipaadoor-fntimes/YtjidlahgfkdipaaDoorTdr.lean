/- Walks: the model's draw of a time. -/
import Derived.Test.YtjidlahgfkdipaaDoorDrawN
import Derived.Test.YtjidlahgfkdipaaDoorGb
import Derived.Test.YtjidlahgfkdipaaDoorBlk
namespace Go.Proofs.YtjidlahgfkdipaaDoor
set_option linter.unusedVariables false
set_option linter.unusedSimpArgs false
open Go.RowKit

theorem pick_times : ∀ j, j < 9 → -631152001 ≤ ([(-631152000), (-631152001), 4102444799, 4102444800, 0, (-1), 951782400, 2524607999, 2524608000] : List Int).getD j 0 ∧ ([(-631152000), (-631152001), 4102444799, 4102444800, 0, (-1), 951782400, 2524607999, 2524608000] : List Int).getD j 0 ≤ 4102444800 := by
  decide

/-- A time is drawn. -/
def GivesTm (w : World) (C : Nat) (a : Option Addr) (n cap : Nat) (e : Ending) (w' : World) : Prop :=
  ∃ x, e = .returned (.int .i64 x) ∧ -631152001 ≤ x ∧ x ≤ 4102444800 ∧ Cur w' C a n cap ∧ w.grownBy w' (some C)

set_option maxHeartbeats 3200000 in
set_option maxRecDepth 100000 in
theorem l9Draw_any (C : Nat) (a : Option Addr) (b off n cap : Nat) (f : Nat → Int) (w : World) (hC : Cur w C a n cap) (hK : Code w C a b off n f) (hn : n ≤ 1048576) (hCw : C < w.heap.size) :
    Calls Tryd.prog 38 #[.pointer (some ⟨C, 0, none⟩)] w fun e w' => GivesTm w C a n cap e w' := by
  have HK := hide hK
  have HC := hide hC
  have HG : Hid (w.grownBy w (some C)) := gb_refl w
  clear hC hK
  go_enter Tryd.func38, Tryd.ntmps38
  go_wp2_with fail
  refine (l1Once_any C a b off n cap f 8 _ HC.out (HK.out.grow HG.out) hn (by omega) (by omega)).mono ?_
  rintro e w1 ⟨t, rfl, hCx, Tx⟩
  replace HC := hide hCx
  replace HG := hide (gb_trans HG.out (gb_touch Tx))
  clear hCx Tx
  cases t
  · skip
    go_wp2_with fail
    refine (l1Below_any C a b off n cap f 40000 _ HC.out (HK.out.grow HG.out) hn (by omega) (by omega)).mono ?_
    rintro e w2 ⟨x, rfl, x0, x1, hCx, Tx⟩
    replace HC := hide hCx
    replace HG := hide (gb_trans HG.out (gb_touch Tx))
    clear hCx Tx
    go_wp2_with fail
    refine (l1Below_any C a b off n cap f 60000 _ HC.out (HK.out.grow HG.out) hn (by omega) (by omega)).mono ?_
    rintro e w3 ⟨y, rfl, y0, y1, hCx, Tx⟩
    replace HC := hide hCx
    replace HG := hide (gb_trans HG.out (gb_touch Tx))
    clear hCx Tx
    have p0 : 0 ≤ x * y := Int.mul_nonneg x0 y0
    have p1 : x * y ≤ 2400000000 := by
      have h1 : x * y ≤ 40000 * y := Int.mul_le_mul_of_nonneg_right (by omega) y0
      omega
    have e1 : wrap64 (x * y) = x * y := by generalize x * y = p at *; unfold wrap64; omega
    have e2 : IntKind.i64.wrap (x * y) = x * y := by generalize x * y = p at *; rw [IntKind.wrap_i64]; omega
    go_wp2_with fail
    refine (l1Below_any C a b off n cap f 60000 _ HC.out (HK.out.grow HG.out) hn (by omega) (by omega)).mono ?_
    rintro e w4 ⟨z, rfl, z0, z1, hCx, Tx⟩
    replace HC := hide hCx
    replace HG := hide (gb_trans HG.out (gb_touch Tx))
    clear hCx Tx
    clear e1 e2
    generalize x * y = p at *
    have e3 : wrap64 (p + z) = p + z := by unfold wrap64; omega
    go_wp2
    go_ret
    exact ⟨_, rfl, by omega, by omega, HC.out, HG.out⟩
  · skip
    have E1 : Ext w1 (w1.alloc (.cells #[.int .i64 (-631152000), .int .i64 (-631152001), .int .i64 4102444799, .int .i64 4102444800, .int .i64 0, .int .i64 (-1), .int .i64 951782400, .int .i64 2524607999, .int .i64 2524608000] 3)) := Ext.alloc _ _
    have HS1 : Hid (Seg (w1.alloc (.cells #[.int .i64 (-631152000), .int .i64 (-631152001), .int .i64 4102444799, .int .i64 4102444800, .int .i64 0, .int .i64 (-1), .int .i64 951782400, .int .i64 2524607999, .int .i64 2524608000] 3)) (some ⟨w1.heap.size, 0, none⟩) w1.heap.size 0 9 (fun i => ([(-631152000), (-631152001), 4102444799, 4102444800, 0, (-1), 951782400, 2524607999, 2524608000] : List Int).getD i 0)) := seg_list w1 [(-631152000), (-631152001), 4102444799, 4102444800, 0, (-1), 951782400, 2524607999, 2524608000]
    have hne1 : w1.heap.size ≠ C := by have := HG.out.size; omega
    obtain ⟨gg1, hgg1⟩ : ∃ gg : Nat → Int, (fun i => ([(-631152000), (-631152001), 4102444799, 4102444800, 0, (-1), 951782400, 2524607999, 2524608000] : List Int).getD i 0) = gg := ⟨_, rfl⟩
    rw [hgg1] at HS1
    have hrr1 : ∀ j, j < 9 → -631152001 ≤ gg1 j ∧ gg1 j ≤ 4102444800 := by rw [← hgg1]; exact pick_times
    clear hgg1
    replace HC := hide (HC.out.of_block (E1.block C (Nat.lt_of_lt_of_le hCw HG.out.size)))
    replace HG := hide (gb_later HG.out E1 HG.out.size)
    clear E1
    go_wp2_with fail
    refine (l1PickInt_of C a b off n cap f _ w1.heap.size 0 9 _ _ _ HC.out (HK.out.grow HG.out) hn HS1.out (by decide) (by decide) hne1).mono ?_
    rintro e w2 ⟨j1, hj1, rfl, hCx, Tx⟩
    have hr1 := hrr1 j1 hj1
    clear hrr1
    generalize gg1 j1 = x at *
    clear HS1 hne1
    replace HC := hide hCx
    replace HG := hide (gb_trans HG.out (gb_touch Tx))
    clear hCx Tx
    go_wp2
    go_ret
    exact ⟨_, rfl, by omega, by omega, HC.out, HG.out⟩

theorem drawDayOf_any (a : Option Addr) (b off n cap : Nat) (f : Nat → Int) (w : World) (hs : BSeg w a b off n f) (hB : ∀ i, i < n → 0 ≤ f i ∧ f i ≤ 255) (hn : n ≤ 1048576) :
    Calls Tryd.prog 20 #[.slice a n cap] w fun e w' => ∃ z, e = .returned (.int .i64 z) ∧ -631152001 ≤ z ∧ z ≤ 4102444800 ∧ Ext w w' := by
  go_enter Tryd.func20, Tryd.ntmps20
  go_wp2_with fail
  refine (l1New_any a b off n cap f _ hs hB hn).mono ?_
  rintro e w1 ⟨rfl, hC1, hlt1, B1⟩
  have K1 : Code w1 w.heap.size a b off n f := ⟨hs.of_all B1, hB, fun h => by have := hs.lt h; omega⟩
  go_wp2_with fail
  refine (l9Draw_any w.heap.size a b off n cap f _ hC1 K1 hn hlt1).mono ?_
  rintro e w2 ⟨z, rfl, z0, z1, hC2, hG⟩
  have HE : Hid (Ext w w2) := hide (gb_to_below B1 hG)
  clear hC1 K1 hC2 hG B1 hs
  go_wp2
  go_ret
  exact ⟨z, rfl, z0, z1, HE.out⟩

end Go.Proofs.YtjidlahgfkdipaaDoor
