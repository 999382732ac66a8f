/- Walks: WriteAddress of the program. -/
import Derived.Test.YtjidlahgfkdipacDoorWad
namespace Go.Proofs.YtjidlahgfkdipacDoor
set_option linter.unusedVariables false
set_option linter.unusedSimpArgs false
open Go.RowKit Go.Sort

theorem itoa_any (n : Nat) (hn : n ≤ 255) (w : World) (hT : Tab w) : Calls Tryd.prog 44 #[.int .i64 (n : Int)] w fun e w' => e = .returned (.string (tld n)) ∧ Ext w w' := by
  refine (Tryd.strconv_Itoa (n : Int) (by omega) (by omega) w hT).mono ?_
  rintro e w' ⟨rfl, k, os, rfl⟩
  refine ⟨?_, rfl, rfl, rfl, by simp [grow], fun i hi => Array.getElem?_append_left hi⟩
  have : ¬ ((n : Int) < 0) := by omega
  unfold Lib.itoa tld
  rw [if_neg this, Int.toNat_natCast]

theorem join4 (a b c d : List UInt8) : (Lib.join [a, b, c, d] [46]).length = a.length + b.length + c.length + d.length + 3 := by
  simp [Lib.join, List.intercalate, List.intersperse]
  omega

/-- The texts that are written when k are. -/
def txt (f : Nat → Int) (k j : Nat) : ByteArray := if j < k then tld (f j).toNat else ⟨#[]⟩

set_option maxHeartbeats 3200000 in
set_option maxRecDepth 100000 in
theorem implWrite_any (a : Option Addr) (b off n cap : Nat) (f : Nat → Int) (w : World) (hs : Seg w a b off n f) (hn : n ≤ 1048576) (hT : Tab w) :
    Calls Tryd.prog 11 #[.slice a n cap] w fun e w' => e = .returned (.tuple #[.string (adrB n f), .bool (fourB n f)]) ∧ Ext w w' := by
  have HF := hide (addressOk_any a b off n cap f w hs hn)
  cases h4 : fourB n f
  · have hA : adrB n f = ⟨#[]⟩ := by unfold adrB; rw [h4]; rfl
    rw [hA]
    rw [h4] at HF
    go_enter Tryd.func11, Tryd.ntmps11
    go_wp2_with (go_at_call 43; refine HF.out.mono ?_; rintro e w1 ⟨rfl, hw⟩; obtain rfl := hw.symm)
    go_ret2
    exact ⟨rfl, Ext.refl _⟩
  · have hA : adrB n f = adr f := by unfold adrB; rw [h4]; rfl
    rw [hA]
    rw [h4] at HF
    obtain ⟨rfl, hf⟩ := four_is h4
    obtain rfl := hs.at' (by omega)
    have Hs := hide hs
    have Hf := hide hf
    have HT := hide hT
    have hmk : ∀ w : World, (Instr.makeSlice 76 (.int .i64 4) (.int .i64 4)).run Tryd.prog w = .ok (.slice (some ⟨w.heap.size, 0, none⟩) 4 4) (w.alloc (.cells [.string ⟨#[]⟩, .string ⟨#[]⟩, .string ⟨#[]⟩, .string ⟨#[]⟩].toArray 9)) := fun w => by kernel_rfl
    have HB := hide (Blk.alloc w [.string ⟨#[]⟩, .string ⟨#[]⟩, .string ⟨#[]⟩, .string ⟨#[]⟩] 9)
    have HX : Hid (Ext w (w.alloc (.cells [.string ⟨#[]⟩, .string ⟨#[]⟩, .string ⟨#[]⟩, .string ⟨#[]⟩].toArray 9))) := Ext.alloc _ _
    obtain ⟨o, ho⟩ : ∃ o, Obj.cells [.string ⟨#[]⟩, .string ⟨#[]⟩, .string ⟨#[]⟩, .string ⟨#[]⟩].toArray 9 = o := ⟨_, rfl⟩
    rw [ho] at HB HX
    simp only [ho] at hmk
    clear ho
    clear hs hf h4 hT hA
    go_enter Tryd.func11, Tryd.ntmps11
    go_wp2_with (go_at_call 43; refine HF.out.mono ?_; rintro e w1 ⟨rfl, hw⟩; obtain rfl := hw.symm)
    go_loopw [13] (fun i wr => ∃ k : Nat, k ≤ 4 ∧ i = .int .i64 (k : Int) ∧ (∀ j, j < 4 → wr.cell? ⟨w.heap.size, j, none⟩ = some (.string (txt f k j)) ∧ wr.frozen? ⟨w.heap.size, j, none⟩ = false) ∧ Ext w wr) (fun i _ => 4 - (intOf i).toNat)
    case atStart =>
      refine ⟨0, Nat.zero_le _, rfl, ?_, ?_⟩
      · intro j hj
        rcases j with _ | _ | _ | _ | j
        · exact HB.out 0 _ rfl
        · exact HB.out 1 _ rfl
        · exact HB.out 2 _ rfl
        · exact HB.out 3 _ rfl
        · omega
      · exact HX.out
    case round =>
      obtain ⟨k, hk, rfl, hc, hE⟩ := hrel
      have hw0 : w.heap.size < wr.heap.size := World.block_lt_of_cell? _ _ (hc 0 (by omega)).1
      by_cases hlt : k < 4
      · have hkn : (k : Int) < 4 := by omega
        obtain ⟨m, hm⟩ := Int.eq_ofNat_of_zero_le (Hf.out k hlt).1
        have hb := (Hf.out k hlt).2
        have ck := (Hs.out.of_all hE).cell k hlt
        rw [hm] at ck hb
        have HI : Hid (∀ W, Ext w W → Calls Tryd.prog 44 #[.int .i64 (m : Int)] W fun e w' => e = .returned (.string (tld m)) ∧ Ext W w') := fun W h => itoa_any m (by omega) W (HT.out.ext h)
        have HR : Hid (∀ j, j < 4 → j ≠ k → txt f (k + 1) j = txt f k j) := fun j hj hne => by
          unfold txt
          by_cases h : j < k
          · rw [if_pos h, if_pos (by omega)]
          · rw [if_neg h, if_neg (by omega)]
        have HK : Hid (txt f (k + 1) k = tld m) := by
          show _ = _
          unfold txt
          rw [if_pos (by omega), hm, Int.toNat_natCast]
        have Hc := hide hc
        have HE := hide hE
        clear hc hE hm
        go_wp2_with (go_at_call 44; refine (HI.out _ HE.out).mono ?_; rintro e w2 ⟨rfl, hE2⟩; have HE2 := hide hE2; have ck2 := (Below.cell hE2 (p := ⟨w.heap.size, k, none⟩) hw0).trans (Hc.out k hlt).1; have fk2 := (Below.frozen hE2 (p := ⟨w.heap.size, k, none⟩) hw0).trans (Hc.out k hlt).2; clear hE2)
        go_roundw
        case rel => 
          refine ⟨k + 1, by omega, by go_num, fun j hj => ?_, ?_⟩
          · by_cases h : j = k
            · subst h
              rw [HK.out]
              exact ⟨World.cell?_setCell_same _ _ _ ck2, by rw [World.frozen?_setCell]; exact fk2⟩
            · rw [HR.out j hj h]
              refine ⟨?_, ?_⟩
              · rw [World.cell?_setCell_other _ _ _ _ (fun e => h (by have := congrArg Addr.off e; simp at this; omega))]
                exact (Below.cell HE2.out (p := ⟨w.heap.size, j, none⟩) hw0).trans (Hc.out j hj).1
              · rw [World.frozen?_setCell]
                exact (Below.frozen HE2.out (p := ⟨w.heap.size, j, none⟩) hw0).trans (Hc.out j hj).2
          · exact below_touch (Ext.trans HE.out HE2.out) ((Touch.refl w.heap.size w2).set k _) (Nat.le_refl _)
        case measure => simp [intOf]; omega
      · obtain rfl : k = 4 := by omega
        have HJ := hide (Tryd.strings_Join w.heap.size 0 4 [tld (f 0).toNat, tld (f 1).toNat, tld (f 2).toNat, tld (f 3).toNat] ⟨#[46]⟩ wr (fun j x hx => by
          rcases j with _ | _ | _ | _ | j
          · simp at hx; subst hx; exact (hc 0 (by omega)).1
          · simp at hx; subst hx; exact (hc 1 (by omega)).1
          · simp at hx; subst hx; exact (hc 2 (by omega)).1
          · simp at hx; subst hx; exact (hc 3 (by omega)).1
          · simp at hx) hw0 (by simp) (by simp) (by
            have z : ∀ i, i < 4 → (tld (f i).toNat).data.toList.length ≤ 3 := fun i hi => by
              have := tld_size (n := (f i).toNat) (by have := Hf.out i hi; omega)
              rw [Array.length_toList]
              exact this
            have z0 := z 0 (by omega)
            have z1 := z 1 (by omega)
            have z2 := z 2 (by omega)
            have z3 := z 3 (by omega)
            have h4 := join4 (tld (f 0).toNat).data.toList (tld (f 1).toNat).data.toList (tld (f 2).toNat).data.toList (tld (f 3).toNat).data.toList
            show (Lib.join [(tld (f 0).toNat).data.toList, (tld (f 1).toNat).data.toList, (tld (f 2).toNat).data.toList, (tld (f 3).toNat).data.toList] [46]).length ≤ 140737488355328
            omega))
        have HE := hide hE
        clear hc hE
        go_wp2_with (go_at_call 45; refine HJ.out.mono ?_; rintro e w2 ⟨rfl, hE2⟩; have HE2 := hide hE2; clear hE2)
        go_ret2
        exact ⟨rfl, Ext.trans HE.out HE2.out⟩

end Go.Proofs.YtjidlahgfkdipacDoor
