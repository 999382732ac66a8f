/- Lists of strings in memory; the laws' own helpers over them; a list of strings that came in, opened. -/
import Derived.Test.YtgdjaapjdmancaaStr
import Derived.Test.YtgdjaapjdmancaaLists
import Derived.Test.YtgdjaapjdmancaaRows
import Derived.SliceStrings
import Derived.WalkKit
import Derived.ProofKit
import Derived.OpenShut
import Derived.ChangeOld
import Derived.Below
namespace Go.Proofs.Ytgdjaapjdmancaa
set_option linter.unusedVariables false
set_option linter.unusedSimpArgs false
set_option maxRecDepth 100000
open Go.RowKit

/-- A list of strings in memory. -/
structure SSeg (w : World) (a : Option Addr) (b off n : Nat) (f : Nat → ByteArray) : Prop where
  at' : 0 < n → a = some ⟨b, off, none⟩
  cell : ∀ i, i < n → w.cell? ⟨b, off + i, none⟩ = some (.string (f i))
theorem SSeg.lt {w : World} {a : Option Addr} {b off n : Nat} {f : Nat → ByteArray} (h : SSeg w a b off n f) (hn : 0 < n) : b < w.heap.size := World.block_lt_of_cell? _ _ (h.cell 0 hn)
theorem SSeg.of_all {w w' : World} {a : Option Addr} {b off n : Nat} {f : Nat → ByteArray} (h : SSeg w a b off n f) (e : Ext w w') : SSeg w' a b off n f :=
  ⟨h.at', fun i hi => (Below.cell e (p := ⟨b, off + i, none⟩) (h.lt (by omega))).trans (h.cell i hi)⟩


/-- What is known of a list of strings that came in. -/
structure StsIn (w : World) (a : Option Addr) (b off n : Nat) (f : Nat → ByteArray) : Prop where
  seg : SSeg w a b off n f
  small : n ≤ 9223372036854775807
  each : ∀ i, i < n → (f i).size ≤ 9223372036854775807

section
open Go.ChangeShapes Go.WideShapes Go.ChangeAt
variable {H : Type} {enc : TypeId × Value → H} {w : World} {base : Nat} {held : Bool}

set_option maxRecDepth 100000 in
theorem open_strsC {fuel : Nat} {cs : List Value} {x : DataW H × List MemPlace} (h : DataW.trod enc Try.prog w base (fun _ => true) held fuel 22 cs = some x) :
    ∃ (a : Option Addr) (b off n cap : Nat) (f : Nat → ByteArray), cs = [.slice a n cap] ∧ StsIn w a b off n f := by
  rcases open_strings Try.underlying22 Try.underlying9 (by kernel_rfl) h with ⟨hcs, _⟩ | ⟨a, len, cap, ss, hcs, _, hl, hm, hz, _, hcell, hsz⟩
  · exact ⟨none, 0, 0, 0, 0, fun _ => ⟨#[]⟩, hcs, ⟨⟨fun h => absurd h (Nat.lt_irrefl _), fun i hi => absurd hi (Nat.not_lt_zero _)⟩, Nat.zero_le _, fun i hi => absurd hi (Nat.not_lt_zero _)⟩⟩
  · simp at hz
    obtain ⟨b, off, spot⟩ := a
    have hmm : len ≤ 9223372036854775807 := by unfold maxLen at hm; omega
    by_cases h0 : len = 0
    · subst h0
      exact ⟨_, 0, 0, 0, cap, fun _ => ⟨#[]⟩, hcs, ⟨⟨fun h => absurd h (Nat.lt_irrefl _), fun i hi => absurd hi (Nat.not_lt_zero _)⟩, Nat.zero_le _, fun i hi => absurd hi (Nat.not_lt_zero _)⟩⟩
    · have hspot : spot = none := by simpa [Addr.add] using World.cell?_spot (hcell 0 (by omega))
      subst hspot
      refine ⟨some ⟨b, off, none⟩, b, off, len, cap, fun i => ss.getD i ByteArray.empty, hcs, ⟨⟨fun _ => rfl, fun i hi => ?_⟩, hmm, fun i hi => ?_⟩⟩
      · have := hcell i (by omega)
        have e : (⟨b, off, none⟩ : Addr).add i = ⟨b, off + i, none⟩ := by
          by_cases h0 : i = 0
          · subst h0; simp [Addr.add]
          · simp [Addr.add, h0]
        rwa [e] at this
      · have hm2 : ss.getD i ByteArray.empty ∈ ss := by
          rw [List.getD_eq_getElem?_getD, List.getElem?_eq_getElem (show i < ss.length by omega)]
          exact List.getElem_mem _
        have := hsz _ hm2
        unfold maxLen at this
        show (ss.getD i ByteArray.empty).size ≤ _
        omega

theorem open_strs {r : Reach} {b0 : Nat} {v : Value} {d : DataW H} {p : List MemPlace} (hv : Value.okWide Try.prog w r b0 22 v) (h : DataW.Trod enc Try.prog w base (fun _ => true) held 22 v d p) :
    ∃ (a : Option Addr) (b off n cap : Nat) (f : Nat → ByteArray), v = .slice a n cap ∧ StsIn w a b off n f := by
  obtain ⟨a', len', cap', rfl⟩ := okWide_slice Try.underlying22 hv
  obtain ⟨fuel, hf⟩ := h
  obtain ⟨a, b, off, n, cap, f, hcs, hI⟩ := open_strsC hf
  simp [Value.cells] at hcs
  obtain ⟨rfl, rfl, rfl⟩ := hcs
  exact ⟨_, b, off, _, _, f, rfl, hI⟩

end

set_option maxHeartbeats 800000 in
theorem szStringS_any (a : Option Addr) (b off n cap : Nat) (f : Nat → ByteArray) (l : Int) (w : World) (hs : StsIn w a b off n f) (l0 : 0 ≤ l) (l1 : l ≤ 1048576) :
    Calls Try.prog 9 #[.slice a n cap, .int .i64 l] w fun e w' => (∃ z : Int, e = .returned (.int .i64 z) ∧ -1 ≤ z ∧ z ≤ l ∧ (0 ≤ z → (n : Int) ≤ l ∧ ∀ i, i < n → ((f i).size : Int) ≤ l)) ∧ w' = w := by
  have hn := hs.small
  have He := hide hs.each
  have Hs := hide hs.seg
  clear hs
  by_cases h : l < n
  · have h1 : l - (n : Int) < 0 := by omega
    have h2 : -9223372036854775808 ≤ l - (n : Int) := by omega
    go_enter Try.func9, Try.ntmps9
    go_wp2
    go_ret
    exact ⟨⟨-1, rfl, by omega, by omega, fun h => by omega⟩, rfl⟩
  · have h1 : ¬ l - (n : Int) < 0 := by omega
    go_enter Try.func9, Try.ntmps9
    go_wp2
    go_loopw [1, 5] (fun c i wr => wr = w ∧ ∃ (k : Nat) (z : Int), k ≤ n ∧ i = .int .i64 k ∧ c = .int .i64 z ∧ 0 ≤ z ∧ z ≤ l ∧ ∀ j, j < k → ((f j).size : Int) ≤ l) (fun _ i _ => n - (intOf i).toNat)
    case atStart => exact ⟨rfl, 0, l - n, Nat.zero_le _, rfl, rfl, by omega, by omega, fun j hj => absurd hj (Nat.not_lt_zero _)⟩
    case round =>
      obtain ⟨rfl, k, z, hk, rfl, rfl, z0, z1, hd⟩ := hrel
      have HD := hide hd
      clear hd
      by_cases hlt : k < n
      · obtain rfl := Hs.out.at' (by omega)
        have c1 := Hs.out.cell k hlt
        have hsz := He.out k hlt
        have hkn : (k : Int) < (n : Int) := by omega
        have h3 : -9223372036854775808 ≤ z - ((f k).size : Int) := by omega
        by_cases hneg : z - ((f k).size : Int) < 0
        · go_wp2
          go_ret
          exact ⟨⟨-1, rfl, by omega, by omega, fun h => by omega⟩, rfl⟩
        · have HX : Hid (((f k).size : Int) ≤ l) := by show _ ≤ _; omega
          go_wp2
          go_roundw
          case rel => exact ⟨trivial, k + 1, _, by omega, by go_num, rfl, by omega, by omega, fun j hj => by
                        by_cases e : j = k
                        · subst e; exact HX.out
                        · exact HD.out j (by omega)⟩
          case measure => simp [intOf]; omega
      · obtain rfl : k = n := by omega
        go_wp2
        go_ret
        exact ⟨⟨z, rfl, by omega, by omega, fun _ => ⟨by omega, HD.out⟩⟩, rfl⟩

/-- What toStringS has done behind k rounds. -/
structure SCopying (w wr : World) (n k : Nat) (f : Nat → ByteArray) : Prop where
  below : Ext w wr
  size : wr.heap.size = w.heap.size + 1
  row : wr.rowIs w.heap.size 9 n (fun j => .string (if j < k then f j else ⟨#[]⟩))
theorem scopying_start (w : World) (n : Nat) (f : Nat → ByteArray) : SCopying w (w.alloc (.cells (madeCells #[.string ⟨#[]⟩] n) 9)) n 0 f :=
  ⟨Ext.alloc _ _, by simp, (World.rowIs_made w _ n 9).congr (fun j _ => by simp)⟩
theorem scopying_step {w wr : World} {n k : Nat} {f : Nat → ByteArray} (h : SCopying w wr n k f) : SCopying w (wr.setCell ⟨w.heap.size, k, none⟩ (.string (f k))) n (k + 1) f := by
  refine ⟨Below.setCell h.below (Nat.le_refl _) _, by simp [World.setCell, h.size], (h.row.set k _).congr (fun j _ => ?_)⟩
  by_cases e : j = k
  · subst e; simp
  · rw [if_neg e]
    by_cases hlt : j < k
    · rw [if_pos hlt, if_pos (by omega)]
    · rw [if_neg hlt, if_neg (by omega)]

/-- A copied list of strings. -/
structure SCopy (w w' : World) (n : Nat) (f : Nat → ByteArray) : Prop where
  below : Ext w w'
  size : w'.heap.size = w.heap.size + 1
  row : w'.rowIs w.heap.size 9 n (fun j => .string (f j))
theorem SCopy.seg {w w' : World} {n : Nat} {f : Nat → ByteArray} (h : SCopy w w' n f) : SSeg w' (some ⟨w.heap.size, 0, none⟩) w.heap.size 0 n f := ⟨fun _ => rfl, fun i hi => by rw [Nat.zero_add]; exact h.row.cell hi⟩

set_option maxHeartbeats 800000 in
theorem toStringS_any (a : Option Addr) (b off n cap : Nat) (f : Nat → ByteArray) (w : World) (hs : SSeg w a b off n f) (hn : n ≤ 1048576) :
    Calls Try.prog 15 #[.slice a n cap] w fun e w' => e = .returned (.slice (some ⟨w.heap.size, 0, none⟩) n n) ∧ SCopy w w' n f := by
  have hmk := run_make_row' (P := Try.prog) 22 9 (.string ⟨#[]⟩) 16 Try.underlying22 Try.infoS rfl .i64 .i64 n (by omega) (by omega)
  go_enter Try.func15, Try.ntmps15
  go_wp2
  clear hmk
  go_loopw [4] (fun i wr => ∃ k : Nat, k ≤ n ∧ i = .int .i64 k ∧ SCopying w wr n k f) (fun i _ => n - (intOf i).toNat)
  case atStart => exact ⟨0, Nat.zero_le _, rfl, scopying_start w n f⟩
  case round =>
    obtain ⟨k, hk, rfl, hI⟩ := hrel
    by_cases hlt : k < n
    · obtain rfl := hs.at' (by omega)
      have hc : wr.cell? ⟨b, off + k, none⟩ = some (.string (f k)) := (Below.cell hI.below (p := ⟨b, off + k, none⟩) (hs.lt (by omega))).trans (hs.cell k hlt)
      have hd : wr.cell? ⟨w.heap.size, k, none⟩ = some (.string ⟨#[]⟩) := by simpa using hI.row.cell hlt
      have hf : wr.frozen? ⟨w.heap.size, k, none⟩ = false := hI.row.frozen k
      have hkn : (k : Int) < (n : Int) := by omega
      go_wp2
      go_roundw
      case rel => exact ⟨k + 1, by omega, by go_num, scopying_step hI⟩
      case measure => simp [intOf]; omega
    · obtain rfl : k = n := by omega
      go_wp2
      go_ret
      exact ⟨rfl, ⟨hI.below, hI.size, hI.row.congr (fun j hj => by rw [if_pos hj])⟩⟩

set_option maxHeartbeats 800000 in
theorem eqStringS_same (a : Option Addr) (b off n cap : Nat) (f : Nat → ByteArray) (a2 : Option Addr) (b2 off2 cap2 : Nat) (w : World) (hs : SSeg w a b off n f) (hs2 : SSeg w a2 b2 off2 n f) (hn : n ≤ 1048576) :
    Calls Try.prog 24 #[.slice a n cap, .slice a2 n cap2] w fun e w' => e = .returned (.bool true) ∧ Ext w w' := by
  go_enter Try.func24, Try.ntmps24
  go_wp2
  go_loopw [5] (fun i wr => ∃ k : Nat, k ≤ n ∧ i = .int .i64 k ∧ Ext w wr) (fun i _ => n - (intOf i).toNat)
  case atStart => exact ⟨0, Nat.zero_le _, rfl, Ext.refl _⟩
  case round =>
    obtain ⟨k, hk, rfl, hE⟩ := hrel
    by_cases hlt : k < n
    · obtain rfl := hs.at' (by omega)
      obtain rfl := hs2.at' (by omega)
      have c1 := (hs.of_all hE).cell k hlt
      have c2 := (hs2.of_all hE).cell k hlt
      have hkn : (k : Int) < (n : Int) := by omega
      have hq : ((f k).toList == (f k).toList) = true := eqS_refl (f k)
      have HE := hide hE
      clear hs hs2 hE
      go_wp2
      go_quiet (fail)
      go_wp2
      go_roundw
      case rel => exact ⟨k + 1, by omega, by go_num, below_drewN HE.out _⟩
      case measure => simp [intOf]; omega
    · obtain rfl : k = n := by omega
      go_wp2
      go_ret
      exact ⟨rfl, hE⟩

end Go.Proofs.Ytgdjaapjdmancaa
