/- Walks: the group of a curve of the program (impl.Point): known, fold. -/
import Derived.Laws.EntriesVeiled
import Derived.Test.YtfhiiakoilkbkaaGreatDoorCv11
namespace Go.Proofs.YtfhiiakoilkbkaaGreatDoor
set_option linter.unusedVariables false
set_option linter.unusedSimpArgs false
open Go.RowKit
theorem hasPt_yes {P A B N : Int} (gx gy : Int) (h : CvNum P A B N) {a : Pt} (ha : On P.toNat A B a) (w : World) : Calls Tryz.prog 179 #[.agg #[.int .i64 P, .int .i64 A, .int .i64 B, .int .i64 N, .int .i64 gx, .int .i64 gy], .agg #[.int .i64 a.x, .int .i64 a.y, .bool a.far]] w fun r w' => r = .returned (.bool true) ∧ Ext w w' := has_at P A B N gx gy a h true ⟨fun _ => ha, fun _ => rfl⟩ w
theorem hasPt_no {P A B N : Int} (gx gy : Int) (h : CvNum P A B N) {a : Pt} (ha : ¬ On P.toNat A B a) (w : World) : Calls Tryz.prog 179 #[.agg #[.int .i64 P, .int .i64 A, .int .i64 B, .int .i64 N, .int .i64 gx, .int .i64 gy], .agg #[.int .i64 a.x, .int .i64 a.y, .bool a.far]] w fun r w' => r = .returned (.bool false) ∧ Ext w w' := has_at P A B N gx gy a h false ⟨fun k => by simp at k, fun k => absurd k ha⟩ w
theorem addPt_at {P A B N : Int} (gx gy : Int) (h : CvNum P A B N) {a b : Pt} (ha : On P.toNat A B a) (hb : On P.toNat A B b) (w : World) : Calls Tryz.prog 180 #[.agg #[.int .i64 P, .int .i64 A, .int .i64 B, .int .i64 N, .int .i64 gx, .int .i64 gy], .agg #[.int .i64 a.x, .int .i64 a.y, .bool a.far], .agg #[.int .i64 b.x, .int .i64 b.y, .bool b.far]] w fun r w' => r = .returned (.agg #[.int .i64 (addF P.toNat A a b).x, .int .i64 (addF P.toNat A a b).y, .bool (addF P.toNat A a b).far]) ∧ Ext w w' := add_at P A B N gx gy a b h ha hb w
theorem CvNum.addPt_on {P A B N : Int} (h : CvNum P A B N) {a b : Pt} (ha : On P.toNat A B a) (hb : On P.toNat A B b) : On P.toNat A B (addF P.toNat A a b) := addF_on h.cv ha hb
theorem CvNum.unitPt_on {P A B N : Int} (h : CvNum P A B N) : On P.toNat A B farP := on_far _ _ _
set_option maxHeartbeats 800000 in
theorem knownPt_yes {P A B N : Int} (gx gy : Int) (h : CvNum P A B N) {a : Pt} (ha : On P.toNat A B a) (w : World) :
  Calls Tryz.prog 185 #[.agg #[.int .i64 0, .int .i64 0, .bool true, .int .i64 gx, .int .i64 gy, .bool false, .func (.func 179) #[.agg #[.int .i64 P, .int .i64 A, .int .i64 B, .int .i64 N, .int .i64 gx, .int .i64 gy]] #[], .func (.func 180) #[.agg #[.int .i64 P, .int .i64 A, .int .i64 B, .int .i64 N, .int .i64 gx, .int .i64 gy]] #[], .func (.func 181) #[.agg #[.int .i64 P, .int .i64 A, .int .i64 B, .int .i64 N, .int .i64 gx, .int .i64 gy]] #[], .func (.func 182) #[.agg #[.int .i64 P, .int .i64 A, .int .i64 B, .int .i64 N, .int .i64 gx, .int .i64 gy]] #[], .func (.func 183) #[] #[]], .agg #[.int .i64 a.x, .int .i64 a.y, .bool a.far]] w fun e w' => e = .returned (.agg #[.int .i64 a.x, .int .i64 a.y, .bool a.far]) ∧ Ext w w' := by
 have HH := hide (hasPt_yes gx gy h ha)
 clear ha h
 go_enter Tryz.func185, Tryz.ntmps185
 go_wp2_with fail
 refine (HH.out _).mono ?_
 rintro r w1 ⟨rfl, hw1⟩
 obtain ⟨B1, B2, B3, hE, hz⟩ := box3 w [.int .i64 0, .int .i64 0, .bool true, .int .i64 gx, .int .i64 gy, .bool false, .func (.func 179) #[.agg #[.int .i64 P, .int .i64 A, .int .i64 B, .int .i64 N, .int .i64 gx, .int .i64 gy]] #[], .func (.func 180) #[.agg #[.int .i64 P, .int .i64 A, .int .i64 B, .int .i64 N, .int .i64 gx, .int .i64 gy]] #[], .func (.func 181) #[.agg #[.int .i64 P, .int .i64 A, .int .i64 B, .int .i64 N, .int .i64 gx, .int .i64 gy]] #[], .func (.func 182) #[.agg #[.int .i64 P, .int .i64 A, .int .i64 B, .int .i64 N, .int .i64 gx, .int .i64 gy]] #[], .func (.func 183) #[] #[]] [.int .i64 a.x, .int .i64 a.y, .bool a.far] [.int .i64 0, .int .i64 0, .bool false] 176 47 47 hw1
 clear hw1
 have c0 := (B2 0 _ rfl).1
 have c1 := (B2 1 _ rfl).1
 have c2 := (B2 2 _ rfl).1
 have d0 := (B3 0 _ rfl).1
 have d1 := (B3 1 _ rfl).1
 have d2 := (B3 2 _ rfl).1
 have z0 := (B3 0 _ rfl).2
 have z1 := (B3 1 _ rfl).2
 have z2 := (B3 2 _ rfl).2
 go_wp2_with fail
 refine (want_yes _).mono ?_
 rintro r w2 ⟨rfl, rfl⟩
 go_wp2
 obtain ⟨W, hW⟩ : ∃ W, putL (w.heap.size + 1 + 1) 0 [.int .i64 a.x, .int .i64 a.y, .bool a.far] w2 = W := ⟨_, rfl⟩
 have BW := Blk.put B3 [.int .i64 a.x, .int .i64 a.y, .bool a.far] rfl
 rw [hW] at BW
 have hF : Ext w W := hW ▸ hE.putL (by omega) _
 simp only [putL, Nat.zero_add, Nat.reduceAdd] at hW
 simp only [hW]
 have q0 := (BW 0 _ rfl).1
 have q1 := (BW 1 _ rfl).1
 have q2 := (BW 2 _ rfl).1
 refine bodyPost_ret (v := .agg #[.int .i64 a.x, .int .i64 a.y, .bool a.far]) (by simp [results, Tryz.results185, go_sem, q0, q1, q2]) rfl ⟨rfl, hF⟩
set_option maxHeartbeats 800000 in
theorem knownPt_no {P A B N : Int} (gx gy : Int) (h : CvNum P A B N) {a : Pt} (ha : ¬ On P.toNat A B a) (w : World) :
  Calls Tryz.prog 185 #[.agg #[.int .i64 0, .int .i64 0, .bool true, .int .i64 gx, .int .i64 gy, .bool false, .func (.func 179) #[.agg #[.int .i64 P, .int .i64 A, .int .i64 B, .int .i64 N, .int .i64 gx, .int .i64 gy]] #[], .func (.func 180) #[.agg #[.int .i64 P, .int .i64 A, .int .i64 B, .int .i64 N, .int .i64 gx, .int .i64 gy]] #[], .func (.func 181) #[.agg #[.int .i64 P, .int .i64 A, .int .i64 B, .int .i64 N, .int .i64 gx, .int .i64 gy]] #[], .func (.func 182) #[.agg #[.int .i64 P, .int .i64 A, .int .i64 B, .int .i64 N, .int .i64 gx, .int .i64 gy]] #[], .func (.func 183) #[] #[]], .agg #[.int .i64 a.x, .int .i64 a.y, .bool a.far]] w fun e w' => e = .panicked [nrE] ∧ Ext w w' := by
 have HH := hide (hasPt_no gx gy h ha)
 clear ha h
 go_enter Tryz.func185, Tryz.ntmps185
 go_wp2_with fail
 refine (HH.out _).mono ?_
 rintro r w1 ⟨rfl, hw1⟩
 obtain ⟨B1, B2, B3, hE, hz⟩ := box3 w [.int .i64 0, .int .i64 0, .bool true, .int .i64 gx, .int .i64 gy, .bool false, .func (.func 179) #[.agg #[.int .i64 P, .int .i64 A, .int .i64 B, .int .i64 N, .int .i64 gx, .int .i64 gy]] #[], .func (.func 180) #[.agg #[.int .i64 P, .int .i64 A, .int .i64 B, .int .i64 N, .int .i64 gx, .int .i64 gy]] #[], .func (.func 181) #[.agg #[.int .i64 P, .int .i64 A, .int .i64 B, .int .i64 N, .int .i64 gx, .int .i64 gy]] #[], .func (.func 182) #[.agg #[.int .i64 P, .int .i64 A, .int .i64 B, .int .i64 N, .int .i64 gx, .int .i64 gy]] #[], .func (.func 183) #[] #[]] [.int .i64 a.x, .int .i64 a.y, .bool a.far] [.int .i64 0, .int .i64 0, .bool false] 176 47 47 hw1
 clear hw1
 have c0 := (B2 0 _ rfl).1
 have c1 := (B2 1 _ rfl).1
 have c2 := (B2 2 _ rfl).1
 have d0 := (B3 0 _ rfl).1
 have d1 := (B3 1 _ rfl).1
 have d2 := (B3 2 _ rfl).1
 have z0 := (B3 0 _ rfl).2
 have z1 := (B3 1 _ rfl).2
 have z2 := (B3 2 _ rfl).2
 go_wp2_with fail
 refine (want_no _).mono ?_
 rintro r w2 ⟨rfl, rfl⟩
 first | exact ⟨rfl, rfl, hE⟩ | (go_wp2; exact ⟨rfl, rfl, hE⟩)
end Go.Proofs.YtfhiiakoilkbkaaGreatDoor
