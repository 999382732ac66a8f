/- ReadTime of the model, whatever the text. -/
import Derived.Test.YtjidlahgfkdipaaDoorTrs
namespace Go.Proofs.YtjidlahgfkdipaaDoor
set_option linter.unusedVariables false
set_option linter.unusedSimpArgs false
open Go.RowKit Go.Sort

theorem specRead_any (s : ByteArray) (w : World) : Calls Tryd.prog 17 #[.string s] w fun e w' => e = .returned (.tuple #[.int .i64 (rdV s), .bool (rdOk s)]) ∧ Ext w w' := by
  by_cases h13 : s.size = 13
  · have e1 : rdT s = cenB s ++ s := by unfold rdT; rw [if_pos h13]
    have e2 : rdOk s = txOk (cenB s ++ s) := by unfold rdOk; rw [e1]; simp [h13]
    have e3 : rdV s = txV (cenB s ++ s) := by unfold rdV; rw [e1, if_pos (Or.inl h13)]
    rw [e2, e3]
    exact specRead_13 s h13 w
  · by_cases h15 : s.size = 15
    · have e1 : rdT s = s := by unfold rdT; rw [if_neg h13]
      have e2 : rdOk s = txOk s := by unfold rdOk; rw [e1]; simp [h15]
      have e3 : rdV s = txV s := by unfold rdV; rw [e1, if_pos (Or.inr h15)]
      rw [e2, e3]
      exact specRead_15 s h15 w
    · have e2 : rdOk s = false := by unfold rdOk; simp [h13, h15]
      have e3 : rdV s = 0 := by unfold rdV; rw [if_neg (by omega)]
      rw [e2, e3]
      have k1 : ((s.size : Int) != 13) = true := by simp; omega
      have k2 : ((s.size : Int) != 15) = true := by simp; omega
      clear e2 e3 h13 h15
      go_enter Tryd.func17, Tryd.ntmps17
      go_wp2
      go_ret2
      exact ⟨rfl, Ext.refl _⟩

end Go.Proofs.YtjidlahgfkdipaaDoor
