/- Walks: three bytes of a number, by the program; what hands back bytes of its own. -/
import Derived.Test.YtcfpmillbdkpcaaDoorCurveB
import Derived.Test.YtcfpmillbdkpcaaDoorBlk
namespace Go.Proofs.YtcfpmillbdkpcaaDoor
set_option linter.unusedVariables false
open Go.RowKit

/-- The call hands back those bytes, in a block of its own. -/
def GivesB (w : World) (m : Nat) (F : Nat → Int) (e : Ending) (w' : World) : Prop :=
  ∃ g, e = .returned (.slice (some ⟨g, 0, none⟩) m m) ∧ w.heap.size ≤ g ∧ Lies w' g (byts F m).toArray ∧ Ext w w'

theorem GivesB.of {w w1 w' : World} {m : Nat} {F : Nat → Int} {xs : Array Value} (hE : Ext w w1) (hx : xs = (byts F m).toArray) (hw : Ext (w1.alloc (.cells xs 5)) w') : GivesB w m F (.returned (.slice (some ⟨w1.heap.size, 0, none⟩) m m)) w' :=
  ⟨_, rfl, Below.size hE, hx ▸ (Lies.new w1 xs).ext hw, (hE.trans (Ext.alloc _ _)).trans hw⟩

theorem GivesB.yes {w w' : World} {m : Nat} {F : Nat → Int} (hm : m ≤ maxLen) {v : Value} (h : GivesB w m F (.returned v) w') : GivesBs w m F true (.returned (.tuple #[v, .bool true])) w' := by
  obtain ⟨g, e, hg, hl, hx⟩ := h
  cases e
  exact givesBs_of_owns (xs := byts F m) (by simpa using hl.owns (Nat.le_refl g) (by simp [byts_length]) hm) hg rfl hx

theorem givesBs_none {w w' : World} (F : Nat → Int) (hx : Ext w w') : GivesBs w 0 F false (.returned (.tuple #[.slice none 0 0, .bool false])) w' :=
  ⟨none, w.heap.size, 0, rfl, Nat.le_refl _, BOwn.nil _ _ _ _ _, hx, Nat.le_refl _, rfl, .inl ⟨rfl, rfl⟩⟩

set_option maxHeartbeats 400000 in
theorem highBytes_any (x : Int) (w : World) (x0 : 0 ≤ x) (x1 : x ≤ 16777215) : Calls Tryd.prog 83 #[.int .i64 x] w fun r w' => r = .returned (.agg #[.int .u8 (x / 65536), .int .u8 (x / 256 % 256), .int .u8 (x % 256)]) ∧ Ext w w' := by
  go_enter Tryd.func83, Tryd.ntmps83
  go_wp2
  refine bodyPost_ret (v := .agg #[.int .u8 (x / 65536), .int .u8 (x / 256 % 256), .int .u8 (x % 256)]) (by simp [results, Tryd.results83, go_sem]) rfl ⟨rfl, ?_⟩
  exact Ext.alloc _ _

end Go.Proofs.YtcfpmillbdkpcaaDoor
