/- Walks: the group of a curve of the program (impl.Pair): known, fold. -/
import Derived.Test.YtejlgcnhfomadabDoorEdA
import Derived.Test.YtejlgcnhfomadabDoorEdU
import Derived.Test.YtejlgcnhfomadabDoorEdP
import Derived.Test.YtejlgcnhfomadabDoorFace
import Derived.Test.YtejlgcnhfomadabDoorBlk
import Derived.Laws.EntriesVeiled
import Derived.Test.YtejlgcnhfomadabDoorPowInt
namespace Go.Proofs.YtejlgcnhfomadabDoor
set_option linter.unusedVariables false
open Go.RowKit

theorem EvNum.nat {P D L : Int} (h : EvNum P D L) : ((P.toNat : Nat) : Int) = P := by have := h.p13; omega

theorem hasPr_at {P D L : Int} (bx cy : Int) (h : EvNum P D L) (a : Pr) (ok : Bool) (hk : ok = true ↔ OnE P.toNat D a) (w : World) : Calls Tryd.prog 79 #[.agg #[.int .i64 P, .int .i64 D, .int .i64 L, .int .i64 bx, .int .i64 cy], .agg #[.int .i64 a.x, .int .i64 a.y]] w fun r w' => r = .returned (.bool ok) ∧ Ext w w' :=
  (hasE_any P D L bx cy a.x a.y w (by have := h.p13; omega) h.pM (by have := h.d2; omega) (by have := h.d1; have := h.pM; omega)).mono fun r w' k => by
    obtain ⟨⟨b, rfl, hb⟩, hw⟩ := k
    exact ⟨by rw [show b = ok by rw [Bool.eq_iff_iff, hb, hk]], hw⟩

theorem hasPr_yes {P D L : Int} (bx cy : Int) (h : EvNum P D L) {a : Pr} (ha : OnE P.toNat D a) (w : World) : Calls Tryd.prog 79 #[.agg #[.int .i64 P, .int .i64 D, .int .i64 L, .int .i64 bx, .int .i64 cy], .agg #[.int .i64 a.x, .int .i64 a.y]] w fun r w' => r = .returned (.bool true) ∧ Ext w w' := hasPr_at bx cy h a true ⟨fun _ => ha, fun _ => rfl⟩ w

theorem hasPr_no {P D L : Int} (bx cy : Int) (h : EvNum P D L) {a : Pr} (ha : ¬ OnE P.toNat D a) (w : World) : Calls Tryd.prog 79 #[.agg #[.int .i64 P, .int .i64 D, .int .i64 L, .int .i64 bx, .int .i64 cy], .agg #[.int .i64 a.x, .int .i64 a.y]] w fun r w' => r = .returned (.bool false) ∧ Ext w w' := hasPr_at bx cy h a false ⟨fun k => by simp at k, fun k => absurd k ha⟩ w

theorem addPr_at {P D L : Int} (bx cy : Int) (h : EvNum P D L) {a b : Pr} (ha : OnE P.toNat D a) (hb : OnE P.toNat D b) (w : World) : Calls Tryd.prog 80 #[.agg #[.int .i64 P, .int .i64 D, .int .i64 L, .int .i64 bx, .int .i64 cy], .agg #[.int .i64 a.x, .int .i64 a.y], .agg #[.int .i64 b.x, .int .i64 b.y]] w fun r w' => r = .returned (.agg #[.int .i64 (addE P.toNat D a b).x, .int .i64 (addE P.toNat D a b).y]) ∧ Ext w w' := by
  have h13 := h.p13; have hM := h.pM; have h2 := h.d2; have h1 := h.d1
  have := addE_prog P.toNat D L bx cy a b w h.pp (by omega) (by omega) (by omega) (by omega) ha.inE hb.inE
  rwa [h.nat] at this

theorem EvNum.addPr_on {P D L : Int} (h : EvNum P D L) {a b : Pr} (ha : OnE P.toNat D a) (hb : OnE P.toNat D b) : OnE P.toNat D (addE P.toNat D a b) := addE_on h.edc ha hb

theorem EvNum.unitPr_on {P D L : Int} (h : EvNum P D L) : OnE P.toNat D oneE := one_on h.edc

set_option maxHeartbeats 800000 in
theorem knownPr_yes {P D L : Int} (bx cy : Int) (h : EvNum P D L) {a : Pr} (ha : OnE P.toNat D a) (w : World) :
    Calls Tryd.prog 56 #[.agg #[.int .i64 0, .int .i64 1, .int .i64 bx, .int .i64 cy, .func (.func 79) #[.agg #[.int .i64 P, .int .i64 D, .int .i64 L, .int .i64 bx, .int .i64 cy]] #[], .func (.func 80) #[.agg #[.int .i64 P, .int .i64 D, .int .i64 L, .int .i64 bx, .int .i64 cy]] #[], .func (.func 81) #[.agg #[.int .i64 P, .int .i64 D, .int .i64 L, .int .i64 bx, .int .i64 cy]] #[], .func (.func 82) #[.agg #[.int .i64 P, .int .i64 D, .int .i64 L, .int .i64 bx, .int .i64 cy]] #[], .func (.func 83) #[] #[]], .agg #[.int .i64 a.x, .int .i64 a.y]] w fun e w' => e = .returned (.agg #[.int .i64 a.x, .int .i64 a.y]) ∧ Ext w w' := by
  have HH := hide (hasPr_yes bx cy h ha)
  clear ha h
  go_enter Tryd.func56, Tryd.ntmps56
  go_wp2_with fail
  refine (HH.out _).mono ?_
  rintro r w1 ⟨rfl, hw1⟩
  obtain ⟨B1, B2, B3, hE, hz⟩ := box3 w [.int .i64 0, .int .i64 1, .int .i64 bx, .int .i64 cy, .func (.func 79) #[.agg #[.int .i64 P, .int .i64 D, .int .i64 L, .int .i64 bx, .int .i64 cy]] #[], .func (.func 80) #[.agg #[.int .i64 P, .int .i64 D, .int .i64 L, .int .i64 bx, .int .i64 cy]] #[], .func (.func 81) #[.agg #[.int .i64 P, .int .i64 D, .int .i64 L, .int .i64 bx, .int .i64 cy]] #[], .func (.func 82) #[.agg #[.int .i64 P, .int .i64 D, .int .i64 L, .int .i64 bx, .int .i64 cy]] #[], .func (.func 83) #[] #[]] [.int .i64 a.x, .int .i64 a.y] [.int .i64 0, .int .i64 0] 87 54 54 hw1
  clear hw1
  have c0 := (B2 0 _ rfl).1
  have c1 := (B2 1 _ rfl).1
  have d0 := (B3 0 _ rfl).1
  have d1 := (B3 1 _ rfl).1
  have z0 := (B3 0 _ rfl).2
  have z1 := (B3 1 _ rfl).2
  go_wp2_with fail
  refine (want_yes _).mono ?_
  rintro r w2 ⟨rfl, rfl⟩
  go_wp2
  obtain ⟨W, hW⟩ : ∃ W, putL (w.heap.size + 1 + 1) 0 [.int .i64 a.x, .int .i64 a.y] w2 = W := ⟨_, rfl⟩
  have BW := Blk.put B3 [.int .i64 a.x, .int .i64 a.y] rfl
  rw [hW] at BW
  have hF : Ext w W := hW ▸ hE.putL (by omega) _
  simp only [putL, Nat.zero_add] at hW
  simp only [hW]
  have q0 := (BW 0 _ rfl).1
  have q1 := (BW 1 _ rfl).1
  refine bodyPost_ret (v := .agg #[.int .i64 a.x, .int .i64 a.y]) (by simp [results, Tryd.results56, go_sem, q0, q1]) rfl ⟨rfl, hF⟩

set_option maxHeartbeats 800000 in
theorem knownPr_no {P D L : Int} (bx cy : Int) (h : EvNum P D L) {a : Pr} (ha : ¬ OnE P.toNat D a) (w : World) :
    Calls Tryd.prog 56 #[.agg #[.int .i64 0, .int .i64 1, .int .i64 bx, .int .i64 cy, .func (.func 79) #[.agg #[.int .i64 P, .int .i64 D, .int .i64 L, .int .i64 bx, .int .i64 cy]] #[], .func (.func 80) #[.agg #[.int .i64 P, .int .i64 D, .int .i64 L, .int .i64 bx, .int .i64 cy]] #[], .func (.func 81) #[.agg #[.int .i64 P, .int .i64 D, .int .i64 L, .int .i64 bx, .int .i64 cy]] #[], .func (.func 82) #[.agg #[.int .i64 P, .int .i64 D, .int .i64 L, .int .i64 bx, .int .i64 cy]] #[], .func (.func 83) #[] #[]], .agg #[.int .i64 a.x, .int .i64 a.y]] w fun e w' => e = .panicked [nrE] ∧ Ext w w' := by
  have HH := hide (hasPr_no bx cy h ha)
  clear ha h
  go_enter Tryd.func56, Tryd.ntmps56
  go_wp2_with fail
  refine (HH.out _).mono ?_
  rintro r w1 ⟨rfl, hw1⟩
  obtain ⟨B1, B2, B3, hE, hz⟩ := box3 w [.int .i64 0, .int .i64 1, .int .i64 bx, .int .i64 cy, .func (.func 79) #[.agg #[.int .i64 P, .int .i64 D, .int .i64 L, .int .i64 bx, .int .i64 cy]] #[], .func (.func 80) #[.agg #[.int .i64 P, .int .i64 D, .int .i64 L, .int .i64 bx, .int .i64 cy]] #[], .func (.func 81) #[.agg #[.int .i64 P, .int .i64 D, .int .i64 L, .int .i64 bx, .int .i64 cy]] #[], .func (.func 82) #[.agg #[.int .i64 P, .int .i64 D, .int .i64 L, .int .i64 bx, .int .i64 cy]] #[], .func (.func 83) #[] #[]] [.int .i64 a.x, .int .i64 a.y] [.int .i64 0, .int .i64 0] 87 54 54 hw1
  clear hw1
  have c0 := (B2 0 _ rfl).1
  have c1 := (B2 1 _ rfl).1
  have d0 := (B3 0 _ rfl).1
  have d1 := (B3 1 _ rfl).1
  have z0 := (B3 0 _ rfl).2
  have z1 := (B3 1 _ rfl).2
  go_wp2_with fail
  refine (want_no _).mono ?_
  rintro r w2 ⟨rfl, rfl⟩
  first | exact ⟨rfl, rfl, hE⟩ | (go_wp2; exact ⟨rfl, rfl, hE⟩)

end Go.Proofs.YtejlgcnhfomadabDoor
