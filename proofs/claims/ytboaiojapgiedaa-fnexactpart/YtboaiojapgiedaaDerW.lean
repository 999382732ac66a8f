/- Walks: the model's l7Write: an item and what is below it as bytes. -/
import Derived.Test.YtboaiojapgiedaaTrM
import Derived.Test.YtboaiojapgiedaaDerL
import Derived.Test.YtboaiojapgiedaaStepsC
namespace Go.Proofs.Ytboaiojapgiedaa
set_option linter.unusedVariables false
set_option linter.unusedSimpArgs false
open Go.RowKit

/-- Lists of bytes as values. -/
def bl (L : List Int) : List Value := L.map (.int .u8 ·)
theorem bl_byts (L : List Int) : bl L = byts (fun i => L.getD i 0) L.length := by
  unfold bl byts
  apply List.ext_getElem
  · simp
  · intro i h1 h2
    simp at h1
    simp [h1]
theorem byts_bl (f : Nat → Int) (n : Nat) : byts f n = bl ((List.range n).map f) := by
  unfold bl byts
  simp
theorem bl_app (A B : List Int) : bl A ++ bl B = bl (A ++ B) := by unfold bl; simp

/-- The bytes of an item's body, of a length. -/
def boL (x : It) : List Int := (List.range x.len).map x.f
def lgL (n : Nat) : List Int := (List.range (lgN n)).map (lgF n)
/-- The bytes of the first k kids. -/
def wrB (g : Nat → List Int) (f : Nat → Int) (s : Int) : Nat → List Int
  | 0 => []
  | k + 1 => wrB g f s k ++ g (kidsF f k s).toNat
/-- The bytes of an item. -/
def wrF (x : Nat → It) (n : Nat) : Nat → Nat → List Int
  | 0, _ => []
  | m + 1, i => (x i).tag :: (lgL (boL (x i) ++ wrB (wrF x n m) (endF (fun j => (x j).kid) n m) ((i : Int) + 1) (x i).kid.toNat).length ++ (boL (x i) ++ wrB (wrF x n m) (endF (fun j => (x j).kid) n m) ((i : Int) + 1) (x i).kid.toNat))
theorem wrB_le (g : Nat → List Int) (f : Nat → Int) (s : Int) {k K : Nat} (h : k ≤ K) : (wrB g f s k).length ≤ (wrB g f s K).length := by
  induction K with
  | zero =>
    obtain rfl : k = 0 := by omega
    exact Nat.le_refl _
  | succ K ih =>
    by_cases e : k = K + 1
    · subst e; exact Nat.le_refl _
    · have := ih (by omega)
      rw [wrB, List.length_append]
      omega
theorem kids_ok {f : Nat → Int} {s : Int} {K : Nat} (h : 0 ≤ kidsF f K s) {k : Nat} (hk : k ≤ K) : 0 ≤ kidsF f k s := by
  by_cases e : k = K
  · subst e; exact h
  · by_cases c : kidsF f k s < 0
    · have := kidsF_neg c K (by omega); omega
    · omega

theorem l1BytesD_any (a : Option Addr) (b off n cap : Nat) (f : Nat → Int) (w : World) (hB : BSeg w a b off n f) (hn : n ≤ 1099511627776) : Calls Try.prog 58 #[.slice a n cap] w fun e w' => GivesR w n f e w' := by
  have hown := World.ownsRow_made (base := w.heap.size) (e := 5) (size := 1) w #[] 0 (Nat.le_refl _) (by simp) rfl
  have Hb := hide (hB.of_all (Ext.alloc w (.cells #[] 5)))
  have Ho := hide hown
  clear hB hown
  go_enter Try.func58, Try.ntmps58
  go_wp2_with (at_builtin; refine wpList_append_bs rfl _ _ rfl w.heap.size _ 0 [] rfl Ho.out _ b off n cap f rfl Hb.out (by omega) (by simp) ?_)
  intro v' w1 h1 h2
  have HO := hide h1
  clear h1 Ho Hb
  have HE : Hid (Ext w w1) := hide (((Below.refl _ _).alloc (Nat.le_refl _) _).trans h2)
  clear h2
  go_wp2
  go_ret
  have h3 := HO.out
  first | exact ⟨_, rfl, h3, HE.out⟩ | (rw [Nat.zero_add] at h3; exact ⟨_, rfl, h3, HE.out⟩)

theorem endF_lt {kid : Nat → Int} {n m z : Nat} (h : 0 ≤ endF kid n m z) : z < n := by
  cases m with
  | zero => have : endF kid n 0 z = -1 := rfl; omega
  | succ m =>
    rw [endF] at h
    by_cases c : n ≤ z
    · rw [if_pos c] at h; omega
    · omega

theorem Grw.of_belowW {X : Nat → Prop} {B : Nat} {a b : World} (h : Below B a b) (hX : ∀ k, B ≤ k → X k) : Grw X a b :=
  ⟨h.os, h.tape, h.output, h.size, fun k hk hn => h.block k (by
    by_cases hh : k < B
    · exact hh
    · exact absurd (hX k (by omega)) hn)⟩

/-- The answer: bytes of the call's own and the place behind. -/
def GivesWr (W : World) (L : List Int) (e : Int) (en : Ending) (w' : World) : Prop := ∃ v, en = .returned (.tuple #[v, .int .i64 e]) ∧ w'.ownsRow W.heap.size 5 1 v L.length (bl L) ∧ Ext W w'

end Go.Proofs.Ytboaiojapgiedaa
