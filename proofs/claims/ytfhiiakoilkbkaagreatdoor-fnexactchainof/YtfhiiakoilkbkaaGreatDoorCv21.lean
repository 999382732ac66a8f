/- Walks: the model's PairOk, EdAdd, EdMul, EdCofactor. -/
import Derived.Test.YtfhiiakoilkbkaaGreatDoorCv20
namespace Go.Proofs.YtfhiiakoilkbkaaGreatDoor
set_option linter.unusedVariables false
set_option linter.unusedSimpArgs false
open Go.RowKit
set_option maxHeartbeats 1600000 in
theorem sPairOk_yes (P D L bx cy : Int) (a : Pr) (hE' : Hid (∀ W : World, Calls Tryz.prog 120 #[.agg #[.int .i64 P, .int .i64 D, .int .i64 L, .int .i64 bx, .int .i64 cy]] W fun e w' => e = .returned (.bool true) ∧ Ext W w')) (hO : Hid (∀ W : World, Calls Tryz.prog 121 #[.agg #[.int .i64 P, .int .i64 D, .int .i64 L, .int .i64 bx, .int .i64 cy], .agg #[.int .i64 a.x, .int .i64 a.y]] W fun e w' => e = .returned (.bool true) ∧ Ext W w')) (w : World) :
  Calls Tryz.prog 98 #[.agg #[.int .i64 P, .int .i64 D, .int .i64 L, .int .i64 bx, .int .i64 cy], .agg #[.int .i64 a.x, .int .i64 a.y]] w fun e w' => e = .returned (.bool true) ∧ Ext w w' := by
 go_enter Tryz.func98, Tryz.ntmps98
 go_wp2_with fail
 refine (hE'.out _).mono ?_
 rintro r w1 ⟨rfl, hw1⟩
 obtain ⟨B0, B1, hE, hz⟩ := box2 w [.int .i64 P, .int .i64 D, .int .i64 L, .int .i64 bx, .int .i64 cy] [.int .i64 a.x, .int .i64 a.y] 48 49 hw1
 clear hw1
 have k0 := (B0 0 _ rfl).1
 have k1 := (B0 1 _ rfl).1
 have k2 := (B0 2 _ rfl).1
 have k3 := (B0 3 _ rfl).1
 have k4 := (B0 4 _ rfl).1
 have f0 := (B1 0 _ rfl).1
 have f1 := (B1 1 _ rfl).1
 go_wp2_with fail
 refine (hO.out _).mono ?_
 rintro r w2 ⟨rfl, hw2⟩
 replace hE := hE.trans hw2
 clear hw2
 go_wp2
 go_ret
 exact ⟨rfl, hE⟩
set_option maxHeartbeats 1600000 in
theorem sPairOk_no1 (P D L bx cy : Int) (a : Pr) (hE' : Hid (∀ W : World, Calls Tryz.prog 120 #[.agg #[.int .i64 P, .int .i64 D, .int .i64 L, .int .i64 bx, .int .i64 cy]] W fun e w' => e = .returned (.bool false) ∧ Ext W w')) (w : World) :
  Calls Tryz.prog 98 #[.agg #[.int .i64 P, .int .i64 D, .int .i64 L, .int .i64 bx, .int .i64 cy], .agg #[.int .i64 a.x, .int .i64 a.y]] w fun e w' => e = .returned (.bool false) ∧ Ext w w' := by
 go_enter Tryz.func98, Tryz.ntmps98
 go_wp2_with fail
 refine (hE'.out _).mono ?_
 rintro r w1 ⟨rfl, hw1⟩
 obtain ⟨B0, B1, hE, hz⟩ := box2 w [.int .i64 P, .int .i64 D, .int .i64 L, .int .i64 bx, .int .i64 cy] [.int .i64 a.x, .int .i64 a.y] 48 49 hw1
 clear hw1
 have k0 := (B0 0 _ rfl).1
 have k1 := (B0 1 _ rfl).1
 have k2 := (B0 2 _ rfl).1
 have k3 := (B0 3 _ rfl).1
 have k4 := (B0 4 _ rfl).1
 have f0 := (B1 0 _ rfl).1
 have f1 := (B1 1 _ rfl).1
 go_wp2
 go_ret
 exact ⟨rfl, hE⟩
set_option maxHeartbeats 1600000 in
theorem sPairOk_no2 (P D L bx cy : Int) (a : Pr) (hE' : Hid (∀ W : World, Calls Tryz.prog 120 #[.agg #[.int .i64 P, .int .i64 D, .int .i64 L, .int .i64 bx, .int .i64 cy]] W fun e w' => e = .returned (.bool true) ∧ Ext W w')) (hO : Hid (∀ W : World, Calls Tryz.prog 121 #[.agg #[.int .i64 P, .int .i64 D, .int .i64 L, .int .i64 bx, .int .i64 cy], .agg #[.int .i64 a.x, .int .i64 a.y]] W fun e w' => e = .returned (.bool false) ∧ Ext W w')) (w : World) :
  Calls Tryz.prog 98 #[.agg #[.int .i64 P, .int .i64 D, .int .i64 L, .int .i64 bx, .int .i64 cy], .agg #[.int .i64 a.x, .int .i64 a.y]] w fun e w' => e = .returned (.bool false) ∧ Ext w w' := by
 go_enter Tryz.func98, Tryz.ntmps98
 go_wp2_with fail
 refine (hE'.out _).mono ?_
 rintro r w1 ⟨rfl, hw1⟩
 obtain ⟨B0, B1, hE, hz⟩ := box2 w [.int .i64 P, .int .i64 D, .int .i64 L, .int .i64 bx, .int .i64 cy] [.int .i64 a.x, .int .i64 a.y] 48 49 hw1
 clear hw1
 have k0 := (B0 0 _ rfl).1
 have k1 := (B0 1 _ rfl).1
 have k2 := (B0 2 _ rfl).1
 have k3 := (B0 3 _ rfl).1
 have k4 := (B0 4 _ rfl).1
 have f0 := (B1 0 _ rfl).1
 have f1 := (B1 1 _ rfl).1
 go_wp2_with fail
 refine (hO.out _).mono ?_
 rintro r w2 ⟨rfl, hw2⟩
 replace hE := hE.trans hw2
 clear hw2
 go_wp2
 go_ret
 exact ⟨rfl, hE⟩
end Go.Proofs.YtfhiiakoilkbkaaGreatDoor
