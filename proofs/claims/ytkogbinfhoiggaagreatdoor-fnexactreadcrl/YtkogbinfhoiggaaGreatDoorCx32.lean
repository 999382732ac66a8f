/- Walks: the program reads lists of numbers and texts out of pieces; written by mkrcc.py. Walks: texts as pieces, names. Plain numbers: days, months and years. Nothing of the program. -/
import Derived.Test.YtkogbinfhoiggaaGreatDoorCx31
namespace Go.Proofs.YtkogbinfhoiggaaGreatDoor
set_option linter.unusedVariables false
set_option linter.unusedSimpArgs false
section
open Go.RowKit
def txS (t : It) : ByteArray := strOfNums (nums t.f t.len)
def TxtR (t : It) (u : Value) : Prop := u = .string (txS t)
def TxtP (t : It) : Prop := mdT t.tag = false
theorem txS_of {t : It} {tag : Int} {s : ByteArray} (h : ct t = txC tag s) : txS t = s := by
 have hb : (List.range t.len).map t.f = (List.range s.size).map (fun i => (bt s i : Int)) := congrArg Ic.bd h
 unfold txS
 have : nums t.f t.len = nums (fun i => (bt s i : Int)) s.size := hb
 rw [this]
 exact str_self s
set_option maxHeartbeats 1600000 in
set_option maxRecDepth 100000 in
theorem readText_any {x : Nat → It} {n : Nat} {w : World} {m B : Nat} {v : Value} {i : Nat} (hP : PieAt x n w m B v i) (hX : Rdx x n w) :
  Calls Tryz.prog 88 #[v] w (OrP w (TxtP (x i)) (fun u _ => TxtR (x i) u)) := by
 have hi : i < n := by cases m with | zero => exact hP.elim | succ m => exact hP.1
 have HB := hide (bodyOf_any hP 0 (by decide))
 have HX := hide hX
 have Hi := hide hi
 clear hX hP hi
 go_enter Tryz.func88, Tryz.ntmps88
 go_wp2_with fail
 refine HB.out.mono ?_
 rintro e w1 ⟨hE1, ⟨u, rfl, rfl, h1, h2⟩ | ⟨⟨ch, rfl⟩, hno⟩⟩
 ·have k1 := conv_seg (cap := (x i).cap) ((HX.out.body i Hi.out).of_all hE1).toBSeg
  have HE1 := hide hE1
  have HR : Hid (TxtR (x i) (.string (strOfNums (nums (x i).f (x i).len)))) := hide rfl
  clear hE1 h1 h2
  generalize strOfNums (nums (x i).f (x i).len) = s at *
  go_wp2
  go_ret
  exact ⟨HE1.out, .inl ⟨_, rfl, HR.out⟩⟩
 ·exact ⟨rfl, hE1, .inr ⟨⟨_, rfl⟩, fun h => hno ⟨h, Nat.zero_le _⟩⟩⟩
theorem owns_mkTp (w : World) (n : Nat) (hn : n ≤ 1048576) : (w.alloc (.cells (madeCells #[.string ⟨#[]⟩] n) 9)).ownsRow w.heap.size 9 1 (.slice (some ⟨w.heap.size, 0, none⟩) n n) n (List.replicate n (.string ⟨#[]⟩)) := by
 have := World.ownsRow_lit (e := 9) (size := 1) (base := w.heap.size) w (madeCells #[.string ⟨#[]⟩] n) n (Nat.le_refl _) (by unfold maxLen; omega) (by rw [size_madeCells]; simp)
 have e : (madeCells #[.string ⟨#[]⟩] n).toList = List.replicate n (.string ⟨#[]⟩) := by
  refine List.ext_getElem ?_ ?_
  ·simp [size_madeCells]
  ·intro i h1 h2
   simp [madeCells, Nat.mod_one]
 rwa [e] at this
def GivesTp (x : Nat → It) (n i : Nat) (w : World) (u : Value) (w' : World) : Prop :=
 ∃ xs : List Value, u = .slice (some ⟨w.heap.size, 0, none⟩) (x i).kid.toNat (x i).kid.toNat ∧ w'.ownsRow w.heap.size 9 1 u (x i).kid.toNat xs ∧ ∀ j, j < (x i).kid.toNat → ∃ y, xs[j]? = some y ∧ TxtR (x (kpl x n i j)) y
set_option maxHeartbeats 3200000 in
set_option maxRecDepth 100000 in
theorem mappedTp_any {x : Nat → It} {n : Nat} {w : World} {m B : Nat} {v : Value} {i : Nat} (hP : PcsAt x n w m B i v) (hX : Rdx x n w) (hK : (x i).kid.toNat ≤ 300) :
  Calls Tryz.prog 87 #[v, .func (.func 88) #[] #[]] w (OrP w (∀ j, j < (x i).kid.toNat → TxtP (x (kpl x n i j))) (GivesTp x n i w)) := by
 obtain ⟨b, hb, hl, rfl, hc⟩ := hP
 obtain ⟨K, hKe⟩ : ∃ K, (x i).kid.toNat = K := ⟨_, rfl⟩
 rw [hKe] at hc hK
 rw [hKe]
 have HRw : Hid (∀ (u : Value) (w' : World) (xs : List Value), u = .slice (some ⟨w.heap.size, 0, none⟩) K K → w'.ownsRow w.heap.size 9 1 u K xs → (∀ j, j < K → ∃ y, xs[j]? = some y ∧ TxtR (x (kpl x n i j)) y) → GivesTp x n i w u w') := hide (fun u w' xs h1 h2 h3 => ⟨xs, by rw [hKe]; exact h1, by rw [hKe]; exact h2, by rw [hKe]; exact h3⟩)
 have hmk := run_make_row' (P := Tryz.prog) 23 9 (.string ⟨#[]⟩) 16 Tryz.underlying23 Tryz.infoS rfl .i64 .i64 K (by omega) (by omega)
 have hO := owns_mkTp w K (by omega)
 have E2 := Ext.alloc w (.cells (madeCells #[.string ⟨#[]⟩] K) 9)
 obtain ⟨V2, hV2⟩ : ∃ z, w.alloc (.cells (madeCells #[.string ⟨#[]⟩] K) 9) = z := ⟨_, rfl⟩
 rw [hV2] at hO E2
 have HO := hide hO
 have HE2 := hide E2
 have HV2 := hide hV2
 have Hc := hide hc
 have HX := hide hX
 have Hl := hide hl
 have hK0 : (0 : Int) ≤ (K : Int) := by omega
 clear hO E2 hV2 hc hX hl hKe
 go_enter Tryz.func87, Tryz.ntmps87
 go_wp2
 try rw [HV2.out]
 clear hmk
 go_loopw [6, 7, 13] (fun ix vx rx wr => ∃ (j : Nat) (xs : List Value), j ≤ K ∧ rx = .int .i64 (j : Int) ∧ wr.ownsRow w.heap.size 9 1 (.slice (some ⟨w.heap.size, 0, none⟩) K K) K xs ∧ (∀ q, q < j → ∃ y, xs[q]? = some y ∧ TxtR (x (kpl x n i q)) y) ∧ Below w.heap.size V2 wr) (fun _ _ rx _ => K - (intOf rx).toNat)
 case atStart => exact ⟨0, _, Nat.zero_le _, rfl, HO.out, fun q hq => absurd hq (Nat.not_lt_zero _), Below.refl _ _⟩
 case round =>
  clear HO
  obtain ⟨j, xs, hj, rfl, hO, hP, hB⟩ := hrel
  have HO := hide hO
  have HP := hide hP
  have HEr : Hid (Ext w wr) := hide (Below.trans HE2.out hB)
  have HB0 := hide hB
  clear hO hP hB
  by_cases hjK : j < K
  ·have hjK' : (j : Int) < (K : Int) := by omega
   obtain ⟨u, hu, hp⟩ := Hc.out j hjK
   have hpr := hp.ext HEr.out
   have HC := hide (readText_any hpr (HX.out.ext HEr.out))
   have hcell := (Below.cell HEr.out (p := ⟨b, j, none⟩) Hl.out).trans hu
   have Hwj : Hid (wrap64 ((j : Int) + 1) = ((j + 1 : Nat) : Int)) := hide (by unfold wrap64; omega)
   clear hpr hu hp
   go_wp2_with fail
   refine HC.out.mono ?_
   rintro e w4 ⟨hE4, ⟨y, rfl, hy⟩ | ⟨⟨ch, rfl⟩, hno⟩⟩
   ·have Hy := hide hy
    cases hy
    have hO4 := ownsRow_ext HO.out hE4
    have hcell4 := World.ownsRow.cellAt hO4 j (by omega)
    have hfr := World.ownsRow.frozenAt hO4 j
    obtain ⟨u0, hu0⟩ : ∃ u, xs[j]? = some u := ⟨xs[j]'(by have := HO.out.1; omega), List.getElem?_eq_getElem _⟩
    rw [hu0] at hcell4
    have HS := hide (World.ownsRow.stored hO4 j (.string (txS (x (kpl x n i j))))).1
    have HR : Hid (∀ q, q < j + 1 → ∃ y, (xs.set j (.string (txS (x (kpl x n i j)))))[q]? = some y ∧ TxtR (x (kpl x n i q)) y) := hide (fun q hq => by
     by_cases hqj : q = j
     ·rw [hqj]
      exact ⟨.string (txS (x (kpl x n i j))), by rw [List.getElem?_set_self (by have := HO.out.1; omega)], Hy.out⟩
     ·obtain ⟨u, h1, h2⟩ := HP.out q (by omega)
      exact ⟨u, by rw [List.getElem?_set_ne (fun e => hqj e.symm)]; exact h1, h2⟩)
    have HB5 := hide (Below.setCell (p := ⟨w.heap.size, j, none⟩) (show Below w.heap.size V2 w4 from Below.trans (show Below w.heap.size V2 wr from HB0.out) (hE4.mono (Below.size HEr.out))) (Nat.le_refl _) (.string (txS (x (kpl x n i j)))))
    have hc4 : w4.cell? ⟨w.heap.size, j, none⟩ = some u0 := hcell4
    have hf4 : w4.frozen? ⟨w.heap.size, j, none⟩ = false := hfr
    clear hE4 hO4 hcell4 hfr hu0 hcell HC
    go_wp2
    go_roundw
    case rel => exact ⟨j + 1, _, hjK, by first | rfl | rw [Hwj.out], HS.out, HR.out, HB5.out⟩
    case measure => first | (simp only [intOf]; omega) | (rw [Hwj.out]; simp only [intOf]; omega)
   ·exact ⟨rfl, HEr.out.trans hE4, .inr ⟨⟨_, rfl⟩, fun h => hno (h j hjK)⟩⟩
  ·have HR := hide (HRw.out _ wr xs rfl HO.out (fun q hq => HP.out q (by omega)))
   have hjn : ¬ (j : Int) < (K : Int) := by omega
   clear HP HO
   go_wp2
   go_ret
   exact ⟨HEr.out, .inl ⟨_, rfl, HR.out⟩⟩
theorem owns_mkNp (w : World) (n : Nat) (hn : n ≤ 1048576) : (w.alloc (.cells (madeCells #[.int .i64 0] n) 3)).ownsRow w.heap.size 3 1 (.slice (some ⟨w.heap.size, 0, none⟩) n n) n (List.replicate n (.int .i64 0)) := by
 have := World.ownsRow_lit (e := 3) (size := 1) (base := w.heap.size) w (madeCells #[.int .i64 0] n) n (Nat.le_refl _) (by unfold maxLen; omega) (by rw [size_madeCells]; simp)
 have e : (madeCells #[.int .i64 0] n).toList = List.replicate n (.int .i64 0) := by
  refine List.ext_getElem ?_ ?_
  ·simp [size_madeCells]
  ·intro i h1 h2
   simp [madeCells, Nat.mod_one]
 rwa [e] at this
def GivesNp (x : Nat → It) (n i : Nat) (w : World) (u : Value) (w' : World) : Prop :=
 ∃ xs : List Value, u = .slice (some ⟨w.heap.size, 0, none⟩) (x i).kid.toNat (x i).kid.toNat ∧ w'.ownsRow w.heap.size 3 1 u (x i).kid.toNat xs ∧ ∀ j, j < (x i).kid.toNat → ∃ y, xs[j]? = some y ∧ NumR (x (kpl x n i j)) y
set_option maxHeartbeats 3200000 in
set_option maxRecDepth 100000 in
theorem mappedNp_any {x : Nat → It} {n : Nat} {w : World} {m B : Nat} {v : Value} {i : Nat} (hP : PcsAt x n w m B i v) (hX : Rdx x n w) (hK : (x i).kid.toNat ≤ 300) :
  Calls Tryz.prog 89 #[v, .func (.func 51) #[] #[]] w (OrP w (∀ j, j < (x i).kid.toNat → NumP (x (kpl x n i j))) (GivesNp x n i w)) := by
 obtain ⟨b, hb, hl, rfl, hc⟩ := hP
 obtain ⟨K, hKe⟩ : ∃ K, (x i).kid.toNat = K := ⟨_, rfl⟩
 rw [hKe] at hc hK
 rw [hKe]
 have HRw : Hid (∀ (u : Value) (w' : World) (xs : List Value), u = .slice (some ⟨w.heap.size, 0, none⟩) K K → w'.ownsRow w.heap.size 3 1 u K xs → (∀ j, j < K → ∃ y, xs[j]? = some y ∧ NumR (x (kpl x n i j)) y) → GivesNp x n i w u w') := hide (fun u w' xs h1 h2 h3 => ⟨xs, by rw [hKe]; exact h1, by rw [hKe]; exact h2, by rw [hKe]; exact h3⟩)
 have hmk := run_make_row' (P := Tryz.prog) 24 3 (.int .i64 0) 8 Tryz.underlying24 Tryz.info3 rfl .i64 .i64 K (by omega) (by omega)
 have hO := owns_mkNp w K (by omega)
 have E2 := Ext.alloc w (.cells (madeCells #[.int .i64 0] K) 3)
 obtain ⟨V2, hV2⟩ : ∃ z, w.alloc (.cells (madeCells #[.int .i64 0] K) 3) = z := ⟨_, rfl⟩
 rw [hV2] at hO E2
 have HO := hide hO
 have HE2 := hide E2
 have HV2 := hide hV2
 have Hc := hide hc
 have HX := hide hX
 have Hl := hide hl
 have hK0 : (0 : Int) ≤ (K : Int) := by omega
 clear hO E2 hV2 hc hX hl hKe
 go_enter Tryz.func89, Tryz.ntmps89
 go_wp2
 try rw [HV2.out]
 clear hmk
 go_loopw [6, 7, 13] (fun ix vx rx wr => ∃ (j : Nat) (xs : List Value), j ≤ K ∧ rx = .int .i64 (j : Int) ∧ wr.ownsRow w.heap.size 3 1 (.slice (some ⟨w.heap.size, 0, none⟩) K K) K xs ∧ (∀ q, q < j → ∃ y, xs[q]? = some y ∧ NumR (x (kpl x n i q)) y) ∧ Below w.heap.size V2 wr) (fun _ _ rx _ => K - (intOf rx).toNat)
 case atStart => exact ⟨0, _, Nat.zero_le _, rfl, HO.out, fun q hq => absurd hq (Nat.not_lt_zero _), Below.refl _ _⟩
 case round =>
  clear HO
  obtain ⟨j, xs, hj, rfl, hO, hP, hB⟩ := hrel
  have HO := hide hO
  have HP := hide hP
  have HEr : Hid (Ext w wr) := hide (Below.trans HE2.out hB)
  have HB0 := hide hB
  clear hO hP hB
  by_cases hjK : j < K
  ·have hjK' : (j : Int) < (K : Int) := by omega
   obtain ⟨u, hu, hp⟩ := Hc.out j hjK
   have hpr := hp.ext HEr.out
   have HC := hide (readInt_any hpr (HX.out.ext HEr.out))
   have hcell := (Below.cell HEr.out (p := ⟨b, j, none⟩) Hl.out).trans hu
   have Hwj : Hid (wrap64 ((j : Int) + 1) = ((j + 1 : Nat) : Int)) := hide (by unfold wrap64; omega)
   clear hpr hu hp
   go_wp2_with fail
   refine HC.out.mono ?_
   rintro e w4 ⟨hE4, ⟨y, rfl, hy⟩ | ⟨⟨ch, rfl⟩, hno⟩⟩
   ·have Hy := hide hy
    obtain ⟨z4, rfl, -, -⟩ := hy
    have hO4 := ownsRow_ext HO.out hE4
    have hcell4 := World.ownsRow.cellAt hO4 j (by omega)
    have hfr := World.ownsRow.frozenAt hO4 j
    obtain ⟨u0, hu0⟩ : ∃ u, xs[j]? = some u := ⟨xs[j]'(by have := HO.out.1; omega), List.getElem?_eq_getElem _⟩
    rw [hu0] at hcell4
    have HS := hide (World.ownsRow.stored hO4 j (.int .i64 z4)).1
    have HR : Hid (∀ q, q < j + 1 → ∃ y, (xs.set j (.int .i64 z4))[q]? = some y ∧ NumR (x (kpl x n i q)) y) := hide (fun q hq => by
     by_cases hqj : q = j
     ·rw [hqj]
      exact ⟨.int .i64 z4, by rw [List.getElem?_set_self (by have := HO.out.1; omega)], Hy.out⟩
     ·obtain ⟨u, h1, h2⟩ := HP.out q (by omega)
      exact ⟨u, by rw [List.getElem?_set_ne (fun e => hqj e.symm)]; exact h1, h2⟩)
    have HB5 := hide (Below.setCell (p := ⟨w.heap.size, j, none⟩) (show Below w.heap.size V2 w4 from Below.trans (show Below w.heap.size V2 wr from HB0.out) (hE4.mono (Below.size HEr.out))) (Nat.le_refl _) (.int .i64 z4))
    have hc4 : w4.cell? ⟨w.heap.size, j, none⟩ = some u0 := hcell4
    have hf4 : w4.frozen? ⟨w.heap.size, j, none⟩ = false := hfr
    clear hE4 hO4 hcell4 hfr hu0 hcell HC
    go_wp2
    go_roundw
    case rel => exact ⟨j + 1, _, hjK, by first | rfl | rw [Hwj.out], HS.out, HR.out, HB5.out⟩
    case measure => first | (simp only [intOf]; omega) | (rw [Hwj.out]; simp only [intOf]; omega)
   ·exact ⟨rfl, HEr.out.trans hE4, .inr ⟨⟨_, rfl⟩, fun h => hno (h j hjK)⟩⟩
  ·have HR := hide (HRw.out _ wr xs rfl HO.out (fun q hq => HP.out q (by omega)))
   have hjn : ¬ (j : Int) < (K : Int) := by omega
   clear HP HO
   go_wp2
   go_ret
   exact ⟨HEr.out, .inl ⟨_, rfl, HR.out⟩⟩
def BitR (t : It) (u : Value) (w' : World) : Prop := ∃ (a : Option Addr) (c : Nat), u = .slice a (t.len - 1) c ∧ 0 < t.len ∧ BOwn w' a t.blk (t.off + 1) (t.len - 1) (fun i => t.f (i + 1))
def BitP (t : It) : Prop := mdT t.tag = false ∧ 1 ≤ t.len
set_option maxHeartbeats 1600000 in
set_option maxRecDepth 100000 in
theorem readBits_any {x : Nat → It} {n : Nat} {w : World} {m B : Nat} {v : Value} {i : Nat} (hP : PieAt x n w m B v i) (hX : Rdx x n w) :
  Calls Tryz.prog 54 #[v] w (OrP w (BitP (x i)) (fun u w' => BitR (x i) u w')) := by
 have hi : i < n := by cases m with | zero => exact hP.elim | succ m => exact hP.1
 have HB := hide (bodyOf_any hP 1 (Nat.le_refl _))
 have HX := hide hX
 have Hi := hide hi
 clear hX hP hi
 go_enter Tryz.func54, Tryz.ntmps54
 go_wp2_with fail
 refine HB.out.mono ?_
 rintro e w1 ⟨hE1, ⟨u, rfl, rfl, h1, h2⟩ | ⟨⟨ch, rfl⟩, hno⟩⟩
 ·have hc := HX.out.cap i Hi.out (by omega)
  have hO := (HX.out.body i Hi.out).of_all hE1
  have ha := hO.at' (by omega)
  rw [ha]
  have HE1 := hide hE1
  have HR : Hid (∀ (a : Option Addr) (c : Nat), (0 < (x i).len - 1 → a = some ⟨(x i).blk, (x i).off + 1, none⟩) → BitR (x i) (.slice a ((x i).len - 1) c) w1) := hide (fun a c h => ⟨a, c, rfl, by omega, ⟨h, fun j hj => by
   have := hO.cell (j + 1) (by omega)
   rw [show (x i).off + 1 + j = (x i).off + (j + 1) by omega]
   exact this⟩, fun j hj => by
   have := hO.free (j + 1) (by omega)
   rw [show (x i).off + 1 + j = (x i).off + (j + 1) by omega]
   exact this⟩)
  have hc1 := hc.1
  have hc2 := hc.2
  clear hE1 h1 hO ha hc
  generalize (x i).len = l at *
  generalize (x i).cap = cp at *
  generalize (x i).blk = bk at *
  generalize (x i).off = of at *
  obtain ⟨l, rfl⟩ : ∃ l', l = l' + 1 := ⟨l - 1, by omega⟩
  have hl1 : (1 : Int) ≤ ((l + 1 : Nat) : Int) := by omega
  by_cases h1c : cp = 1
  ·have hl0 : l = 0 := by omega
   subst h1c
   subst hl0
   have HR0 := hide (HR.out (some ⟨bk, of, none⟩) 0 (fun h => absurd h (by decide)))
   clear HR
   go_wp2
   go_ret
   exact ⟨HE1.out, .inl ⟨_, rfl, HR0.out⟩⟩
  ·have h1c' : ¬ 1 = cp := fun h => h1c h.symm
   have HR0 := hide (HR.out (some ⟨bk, of + 1, none⟩) (cp - 1) (fun _ => rfl))
   have hcl : ((l + 1 : Nat) : Int) ≤ (cp : Int) := by omega
   rw [Nat.add_sub_cancel] at HR0
   clear HR
   go_wp2
   go_ret
   exact ⟨HE1.out, .inl ⟨_, rfl, HR0.out⟩⟩
 ·exact ⟨rfl, hE1, .inr ⟨⟨_, rfl⟩, fun h => hno h⟩⟩
set_option maxHeartbeats 1600000 in
set_option maxRecDepth 100000 in
theorem readTexts_any {x : Nat → It} {n : Nat} {w : World} {m B : Nat} {v : Value} {i : Nat} (hP : PieAt x n w (m + 1) B v i) (hX : Rdx x n w) (hK : (x i).kid.toNat ≤ 300) :
  Calls Tryz.prog 52 #[v] w (OrP w (mdT (x i).tag = true ∧ ∀ j, j < (x i).kid.toNat → TxtP (x (kpl x n i j))) (fun u w' => ∃ w1, Ext w w1 ∧ GivesTp x n i w1 u w' ∧ mdT (x i).tag = true)) := by
 have HB := hide (partsOf_any hP 0 (by decide) hK)
 have HX := hide hX
 clear hX hP
 go_enter Tryz.func52, Tryz.ntmps52
 go_wp2_with fail
 refine HB.out.mono ?_
 rintro e w1 ⟨hE1, ⟨u, rfl, hPc, h1, h2⟩ | ⟨⟨ch, rfl⟩, hno⟩⟩
 ·have HM := hide (mappedTp_any hPc (HX.out.ext hE1) hK)
  have HE1 := hide hE1
  have H1 := hide h1
  clear hE1 hPc h1 h2 HB
  go_wp2_with fail
  refine HM.out.mono ?_
  rintro e w2 ⟨hE2, ⟨y, rfl, hy⟩ | ⟨⟨ch, rfl⟩, hno⟩⟩
  ·have Hy := hide hy
   have HE2 := hide (HE1.out.trans hE2)
   clear hy hE2
   go_wp2
   go_ret
   exact ⟨HE2.out, .inl ⟨_, rfl, w1, HE1.out, Hy.out, H1.out⟩⟩
  ·exact ⟨rfl, HE1.out.trans hE2, .inr ⟨⟨_, rfl⟩, fun h => hno h.2⟩⟩
 ·exact ⟨rfl, hE1, .inr ⟨⟨_, rfl⟩, fun h => hno ⟨h.1, Nat.zero_le _⟩⟩⟩
set_option maxHeartbeats 1600000 in
set_option maxRecDepth 100000 in
theorem readInts_any {x : Nat → It} {n : Nat} {w : World} {m B : Nat} {v : Value} {i : Nat} (hP : PieAt x n w (m + 1) B v i) (hX : Rdx x n w) (hK : (x i).kid.toNat ≤ 300) :
  Calls Tryz.prog 53 #[v] w (OrP w (mdT (x i).tag = true ∧ ∀ j, j < (x i).kid.toNat → NumP (x (kpl x n i j))) (fun u w' => ∃ w1, Ext w w1 ∧ GivesNp x n i w1 u w' ∧ mdT (x i).tag = true)) := by
 have HB := hide (partsOf_any hP 0 (by decide) hK)
 have HX := hide hX
 clear hX hP
 go_enter Tryz.func53, Tryz.ntmps53
 go_wp2_with fail
 refine HB.out.mono ?_
 rintro e w1 ⟨hE1, ⟨u, rfl, hPc, h1, h2⟩ | ⟨⟨ch, rfl⟩, hno⟩⟩
 ·have HM := hide (mappedNp_any hPc (HX.out.ext hE1) hK)
  have HE1 := hide hE1
  have H1 := hide h1
  clear hE1 hPc h1 h2 HB
  go_wp2_with fail
  refine HM.out.mono ?_
  rintro e w2 ⟨hE2, ⟨y, rfl, hy⟩ | ⟨⟨ch, rfl⟩, hno⟩⟩
  ·have Hy := hide hy
   have HE2 := hide (HE1.out.trans hE2)
   clear hy hE2
   go_wp2
   go_ret
   exact ⟨HE2.out, .inl ⟨_, rfl, w1, HE1.out, Hy.out, H1.out⟩⟩
  ·exact ⟨rfl, HE1.out.trans hE2, .inr ⟨⟨_, rfl⟩, fun h => hno h.2⟩⟩
 ·exact ⟨rfl, hE1, .inr ⟨⟨_, rfl⟩, fun h => hno ⟨h.1, Nat.zero_le _⟩⟩⟩
theorem textPiece1_any (tag : Int) (T : Nat) (s : ByteArray) (w : World) (hT : w.cell? ⟨T, 0, none⟩ = some (.int .i64 tag)) :
  Calls Tryz.prog 146 #[.string s, .pointer (some ⟨T, 0, none⟩)] w fun e w' => GivesPc w [txC tag s] e w' := by
 have hcv := run_str w s
 have HO := hide (str_own w s)
 have HX := hide (strW_ext w s)
 have HTx : Hid (txC tag s = ⟨tag, 0, (List.range s.size).map (fun i => (bt s i : Int))⟩) := rfl
 generalize txC tag s = CT at *
 generalize (fun i => (bt s i : Int)) = F at *
 generalize grownCap w s.size 0 5 = gc at *
 generalize strW w s = ws at *
 go_enter Tryz.func146, Tryz.ntmps146
 go_wp2_with fail
 refine (leafPiece_any tag _ _ _ ws).mono ?_
 rintro e w2 ⟨rfl, hw⟩
 obtain rfl := hw.symm
 go_wp2
 go_ret
 exact ⟨_, _, rfl, Pce.leaf tag HO.out (Nat.le_refl _), by rw [List.map_cons, ct_one, HTx.out]; rfl, HX.out⟩
set_option maxHeartbeats 3200000 in
set_option maxRecDepth 100000 in
theorem mappedTx_any (tag : Int) (T : Nat) (a : Option Addr) (b off n cap : Nat) (f : Nat → ByteArray) (w : World) (hs : SSeg w a b off n f) (hT : w.cell? ⟨T, 0, none⟩ = some (.int .i64 tag)) (hn : n ≤ 1000) :
  Calls Tryz.prog 145 #[.slice a n cap, .func (.func 146) #[] #[.pointer (some ⟨T, 0, none⟩)]] w fun e w' => GivesPs w ((List.range n).map (fun i => [txC tag (f i)])) e w' := by
 have HN := hide (owns_nils w n (by omega))
 have hmk := run_make_pcs n (by omega)
 have HI : Hid (∀ s W, Ext w W → Calls Tryz.prog 146 #[.string s, .pointer (some ⟨T, 0, none⟩)] W fun e w' => GivesPc W [txC tag s] e w') := fun s W h => textPiece1_any tag T s W ((Below.cell h (p := ⟨T, 0, none⟩) (World.block_lt_of_cell? _ _ hT)).trans hT)
 have Hs := hide hs
 clear hs hT
 go_enter Tryz.func145, Tryz.ntmps145
 go_wp2
 clear hmk
 go_loopw [13] (fun k wr => ∃ (j : Nat) (P : List (Value × List It)), j ≤ n ∧ k = .int .i64 (j : Int) ∧ P.length = j ∧ wr.ownsRow w.heap.size 51 1 (.slice (some ⟨w.heap.size, 0, none⟩) n n) n (P.map (·.1) ++ List.replicate (n - j) .nilIface) ∧ Pcs (w.heap.size + 1) wr.heap.size wr P ∧ P.map (fun p => p.2.map ct) = (List.range j).map (fun i => [txC tag (f i)]) ∧ Ext w wr) (fun k _ => n - (intOf k).toNat)
 case atStart => exact ⟨0, [], Nat.zero_le _, rfl, rfl, HN.out, Pcs.nil _ _ _ (Nat.le_refl _), rfl, Ext.alloc _ _⟩
 case round =>
  clear HN
  obtain ⟨j, P, hj, rfl, hPl, hO, hP, hC, hE⟩ := hrel
  have HO := hide hO
  have HP := hide hP
  have HC := hide hC
  have HE := hide hE
  have HPl := hide hPl
  by_cases hlt : j < n
  ·have hjk : (j : Int) < (n : Int) := by omega
   obtain rfl := Hs.out.at' (by omega)
   have cj := (Hs.out.of_all HE.out).cell j hlt
   have HIj := hide (HI.out (f j) wr HE.out)
   clear hO hP hC hE hPl
   have W1 : Hid (wrap64 ((j : Int) + 1) = (j : Int) + 1) := by show _ = _; unfold wrap64; omega
   go_wp2_with fail
   refine HIj.out.mono ?_
   rintro e2 w2 ⟨v2, L2, rfl, h2, h2c, h2E⟩
   have H2 := hide h2
   have H2c := hide h2c
   have H2E := hide h2E
   have hO2 := ownsRow_ext HO.out h2E
   have cz : w2.cell? ⟨w.heap.size, j, none⟩ = some .nilIface := row_cell1 hO2 (by
    rw [List.getElem?_append_right (by simp [HPl.out]), List.length_map, HPl.out, Nat.sub_self, List.getElem?_replicate, if_pos (by omega)])
   have fz : w2.frozen? ⟨w.heap.size, j, none⟩ = false := World.ownsRow.frozenAt hO2 j
   obtain ⟨tg, aa, nn, cc, hv⟩ : ∃ tg aa nn cc, v2 = .iface 140 (.agg #[.int .i64 tg, .slice aa nn cc]) ∨ v2 = .iface 133 (.agg #[.int .i64 tg, .slice aa nn cc]) := by
    obtain ⟨tg, aa, nn, cc, h | h⟩ := h2.its w2 (Agr.refl _ _ _)
    ·exact ⟨tg, aa, nn, cc, .inl h.1⟩
    ·exact ⟨tg, aa, nn, cc, .inr h.1⟩
   have HO2 := hide hO2
   clear h2 h2c h2E hO2
   have hst : ∀ v2, Pce wr.heap.size w2.heap.size w2 v2 L2 → (w2.setCell ⟨w.heap.size, j, none⟩ v2).ownsRow w.heap.size 51 1 (.slice (some ⟨w.heap.size, 0, none⟩) n n) n ((P ++ [(v2, L2)]).map (·.1) ++ List.replicate (n - (j + 1)) .nilIface) ∧ Pcs (w.heap.size + 1) (w2.setCell ⟨w.heap.size, j, none⟩ v2).heap.size (w2.setCell ⟨w.heap.size, j, none⟩ v2) (P ++ [(v2, L2)]) ∧ Ext w (w2.setCell ⟨w.heap.size, j, none⟩ v2) := fun v2 hv2 => by
    have hR : w.heap.size < wr.heap.size := (HO.out.lt w.heap.size rfl).2
    have hbk : ∀ k, k ≠ w.heap.size → (w2.setCell ⟨w.heap.size, j, none⟩ v2).heap[k]? = w2.heap[k]? := fun k hk => Below.heap_setCell _ _ _ _ (by simpa using hk)
    have hsz : (w2.setCell ⟨w.heap.size, j, none⟩ v2).heap.size = w2.heap.size := by simp [World.setCell]
    have hs2 : wr.heap.size ≤ w2.heap.size := Below.size H2E.out
    refine ⟨?_, ?_, Below.setCell (p := ⟨w.heap.size, j, none⟩) (Ext.trans HE.out H2E.out) (Nat.le_refl _) _⟩
    ·have := (World.ownsRow.stored HO2.out j v2).1
     have e : (P.map (·.1) ++ List.replicate (n - j) Value.nilIface).set j v2 = (P ++ [(v2, L2)]).map (·.1) ++ List.replicate (n - (j + 1)) .nilIface := by
      have h1 := set_mid (P.map (·.1)) Value.nilIface v2 (n - (j + 1))
      rw [List.length_map, HPl.out, show n - (j + 1) + 1 = n - j by omega] at h1
      rw [h1, List.map_append]
      rfl
     rw [e] at this
     exact this
    ·rw [hsz]
     refine Pcs.add (W := wr) (E := wr.heap.size) HP.out (fun k h1 h2 => (hbk k (by omega)).trans (Below.block H2E.out k h2)) (by rw [hsz]; exact hs2) (hv2.keep (fun k h1 h2 => hbk k (by omega)) (by rw [hsz]; exact Nat.le_refl _)) (by omega) hs2
   have Hst := hide (hst v2 H2.out)
   clear hst
   have HNC : Hid ((P ++ [(v2, L2)]).map (fun p => p.2.map ct) = (List.range (j + 1)).map (fun i => [txC tag (f i)])) := by
    show _ = _
    rw [List.map_append, HC.out, List.range_succ, List.map_append]
    congr 1
    show [L2.map ct] = _
    rw [H2c.out]
    rfl
   rcases hv with hv | hv
   all_goals
    have Hv := hide hv
    clear H2
    subst hv
    go_wp2
    refine ⟨⟨j + 1, P ++ [(_, L2)], by omega, by (try rw [W1.out]); congr 1, by rw [List.length_append, HPl.out]; rfl, Hst.out.1, Hst.out.2.1, HNC.out, Hst.out.2.2⟩, ?_⟩
    try rw [W1.out]
    show n - ((j : Int) + 1).toNat < n - ((j : Int)).toNat
    omega
  ·obtain rfl : j = n := by omega
   have hjk : ¬ (j : Int) < (j : Int) := by omega
   clear hO hP hC hE hPl
   have HO3 := HO.out
   rw [Nat.sub_self, List.replicate_zero, List.append_nil] at HO3
   have HO4 := hide HO3
   clear HO3 HO
   go_wp2
   go_ret
   exact ⟨P, by rw [HPl.out]; rfl, by rw [HPl.out]; exact HO4.out, HP.out, HC.out, HE.out⟩
def GivesPx (w : World) (Cs : List (List Ic)) (e : Ending) (w' : World) : Prop :=
 ∃ R P, e = .returned (.slice (some ⟨R, 0, none⟩) P.length P.length) ∧ w.heap.size ≤ R ∧ w'.ownsRow R 51 1 (.slice (some ⟨R, 0, none⟩) P.length P.length) P.length (P.map (·.1)) ∧ Pcs (R + 1) w'.heap.size w' P ∧ P.map (fun p => p.2.map ct) = Cs ∧ Ext w w'
theorem textPieces_any (tag : Int) (a : Option Addr) (b off n cap : Nat) (f : Nat → ByteArray) (w : World) (hs : SSeg w a b off n f) (hn : n ≤ 1000) :
  Calls Tryz.prog 128 #[.int .i64 tag, .slice a n cap] w fun e w' => GivesPx w ((List.range n).map (fun i => [txC tag (f i)])) e w' := by
 obtain ⟨V, hV⟩ : ∃ V, w.alloc (.cells #[.int .i64 tag] 3) = V := ⟨_, rfl⟩
 have hE : Ext w V := by rw [← hV]; exact Ext.alloc _ _
 have hc : V.cell? ⟨w.heap.size, 0, none⟩ = some (.int .i64 tag) := by rw [← hV]; exact World.cell?_alloc_new _ _ _ _
 have HM := hide (mappedTx_any tag w.heap.size a b off n cap f V (hs.of_all hE) hc hn)
 have HE := hide hE
 clear hs hE hc
 go_enter Tryz.func128, Tryz.ntmps128
 go_wp2_with fail
 try rw [hV]
 clear hV
 refine HM.out.mono ?_
 rintro e w1 ⟨P, rfl, h1, h2, h3, h4⟩
 have H1 := hide h1
 have H2 := hide h2
 have H3 := hide h3
 have H4 := hide h4
 clear h1 h2 h3 h4 HM
 obtain ⟨N, hN⟩ : ∃ N, P.length = N := ⟨_, rfl⟩
 rw [hN]
 have HN := hide hN
 clear hN
 go_wp2
 go_ret
 exact ⟨V.heap.size, P, by rw [HN.out]; rfl, Below.size HE.out, H1.out, H2.out, H3.out, HE.out.trans H4.out⟩
theorem flat_one {P : List (Value × List It)} {n : Nat} {g : Nat → Ic} (h : P.map (fun p => p.2.map ct) = (List.range n).map (fun i => [g i])) : (P.flatMap (·.2)).map ct = (List.range n).map g := by
 have e : (P.flatMap (·.2)).map ct = (P.map (fun p => p.2.map ct)).flatMap (fun x => x) := by rw [List.map_flatMap, List.flatMap_map]
 have k : ∀ L : List Nat, L.flatMap (fun i => [g i]) = L.map g := by
  intro L
  induction L with
  | nil => rfl
  | cons x L ih => rw [List.flatMap_cons, ih]; rfl
 rw [e, h, List.flatMap_map]
 exact k _
def nmC (n : Nat) (f : Nat → ByteArray) : List Ic := ⟨48, n, []⟩ :: (List.range n).map (fun i => txC 12 (f i))
set_option maxHeartbeats 800000 in
theorem namePiece_any (a : Option Addr) (b off n cap : Nat) (f : Nat → ByteArray) (w : World) (hs : SSeg w a b off n f) (hn : n ≤ 1000) :
  Calls Tryz.prog 104 #[.slice a n cap] w fun e w' => GivesPc w (nmC n f) e w' := by
 have HT := hide (textPieces_any 12 a b off n cap f w hs hn)
 clear hs
 go_enter Tryz.func104, Tryz.ntmps104
 go_wp2_with fail
 refine HT.out.mono ?_
 rintro e w1 ⟨R, P, rfl, hR, h1, h2, h3, h4⟩
 have hl : P.length = n := by have := map_len h3; simpa using this
 have hf := flat_one h3
 have HK := hide (Pce.knot (B := R) (a := some ⟨R, 0, none⟩) (n := P.length) (cap := P.length) 48 (h2.wide (B' := R) (E' := w1.heap.size) (by omega) (Nat.le_refl _) (Nat.le_refl _)) h1 (by have := map_len hf; rw [List.length_map, List.length_range] at this; omega) (by omega))
 have HF := hide hf
 have HL := hide hl
 have HE := hide h4
 clear h1 h2 h3 h4 hf hl HT
 obtain ⟨N, hN⟩ : ∃ N, P.length = N := ⟨_, rfl⟩
 rw [hN] at HK HL ⊢
 clear hN
 go_wp2_with fail
 refine (listPiece_any _ _ _ w1).mono ?_
 rintro e w2 ⟨rfl, hw⟩
 obtain rfl := hw.symm
 go_wp2
 go_ret
 exact ⟨_, _, rfl, HK.out.wide hR (Nat.le_refl _) (Nat.le_refl _), by rw [List.map_cons, ct_bare, HF.out, HL.out]; rfl, HE.out⟩
def mTab : List Int := [31, 28, 31, 30, 31, 30, 31, 31, 30, 31, 30, 31]
def yd (y : Nat) : Nat := if y % 4 = 0 then 366 else 365
def mdt : Nat → Nat
 | 1 => 31 | 2 => 28 | 3 => 31 | 4 => 30 | 5 => 31 | 6 => 30 | 7 => 31 | 8 => 31 | 9 => 30 | 10 => 31 | 11 => 30 | 12 => 31 | _ => 0
def md (y m : Nat) : Nat := if m = 2 ∧ y % 4 = 0 then 29 else mdt m
def Yd (k : Nat) : Nat := 365 * k + (k + 1) / 4
def mbt : Nat → Nat
 | 1 => 0 | 2 => 31 | 3 => 59 | 4 => 90 | 5 => 120 | 6 => 151 | 7 => 181 | 8 => 212 | 9 => 243 | 10 => 273 | 11 => 304 | 12 => 334 | 13 => 365 | _ => 0
def Mb (y m : Nat) : Nat := if 2 < m ∧ y % 4 = 0 then mbt m + 1 else mbt m
theorem Yd_succ (k : Nat) : Yd (k + 1) = Yd k + yd (1950 + k) := by unfold Yd yd; split <;> omega
theorem Mb_one (y : Nat) : Mb y 1 = 0 := by unfold Mb; simp [mbt]
theorem Mb_end (y : Nat) : Mb y 13 = yd y := by unfold Mb yd mbt; simp
theorem month_cases {m : Nat} (h1 : 1 ≤ m) (h2 : m ≤ 12) : m = 1 ∨ m = 2 ∨ m = 3 ∨ m = 4 ∨ m = 5 ∨ m = 6 ∨ m = 7 ∨ m = 8 ∨ m = 9 ∨ m = 10 ∨ m = 11 ∨ m = 12 := by omega
theorem Mb_succ (y m : Nat) (h1 : 1 ≤ m) (h2 : m ≤ 12) : Mb y (m + 1) = Mb y m + md y m := by
 by_cases h : y % 4 = 0
 all_goals rcases month_cases h1 h2 with rfl | rfl | rfl | rfl | rfl | rfl | rfl | rfl | rfl | rfl | rfl | rfl
 all_goals simp [Mb, md, mbt, mdt, h]
theorem md_le (y m : Nat) : md y m ≤ 31 := by
 unfold md
 split
 ·omega
 ·unfold mdt; split <;> omega
theorem Mb_le (y m : Nat) (h1 : 1 ≤ m) (h2 : m ≤ 12) : Mb y (m + 1) ≤ yd y := by
 by_cases h : y % 4 = 0
 all_goals rcases month_cases h1 h2 with rfl | rfl | rfl | rfl | rfl | rfl | rfl | rfl | rfl | rfl | rfl | rfl
 all_goals simp [Mb, mbt, yd, h]
theorem Mb_mono (y : Nat) {m n : Nat} (h1 : 1 ≤ m) (h : m < n) (h2 : n ≤ 12) : Mb y (m + 1) ≤ Mb y n := by
 induction n with
 | zero => omega
 | succ n ih =>
  by_cases e : m = n
  ·subst e; exact Nat.le_refl _
  ·have := ih (by omega) (by omega)
   rw [Mb_succ y n (by omega) (by omega)]
   omega
theorem Yd_mono {k n : Nat} (h : k < n) : Yd (k + 1) ≤ Yd n := by unfold Yd; omega
theorem Yd_lt {k : Nat} (h : Yd k ≤ 54786) : k < 150 := by unfold Yd at h; omega
theorem Yd_last {k : Nat} (h : k < 150) : Yd (k + 1) ≤ 54787 := by unfold Yd; omega
theorem yd_le (y : Nat) : 365 ≤ yd y ∧ yd y ≤ 366 := by unfold yd; split <;> omega
structure DayOk (y m d : Nat) : Prop where
 y0 : 1950 ≤ y
 y1 : y ≤ 2099
 m0 : 1 ≤ m
 m1 : m ≤ 12
 d0 : 1 ≤ d
 d1 : d ≤ md y m
def days (y m d : Nat) : Nat := Yd (y - 1950) + Mb y m + (d - 1)
theorem DayOk.lt {y m d : Nat} (h : DayOk y m d) : days y m d < Yd (y - 1950 + 1) ∧ Yd (y - 1950) ≤ days y m d ∧ Yd (y - 1950) + Mb y m ≤ days y m d ∧ days y m d < Yd (y - 1950) + Mb y (m + 1) := by
 have a := Yd_succ (y - 1950)
 have e : 1950 + (y - 1950) = y := by have := h.y0; omega
 rw [e] at a
 have b := Mb_succ y m h.m0 h.m1
 have c := Mb_le y m h.m0 h.m1
 have d0 := h.d0
 have d1 := h.d1
 unfold days
 omega
theorem DayOk.max {y m d : Nat} (h : DayOk y m d) : days y m d ≤ 54786 := by
 have := h.lt.1
 have := Yd_last (k := y - 1950) (by have := h.y1; omega)
 omega
theorem DayOk.unique {y m d y' m' d' : Nat} (h : DayOk y m d) (h' : DayOk y' m' d') (e : days y m d = days y' m' d') : y = y' ∧ m = m' ∧ d = d' := by
 obtain ⟨a1, a2, a3, a4⟩ := h.lt
 obtain ⟨b1, b2, b3, b4⟩ := h'.lt
 have hy : y = y' := by
  have h0 := h.y0
  have h0' := h'.y0
  rcases Nat.lt_trichotomy y y' with c | c | c
  ·have := Yd_mono (k := y - 1950) (n := y' - 1950) (by omega); omega
  ·exact c
  ·have := Yd_mono (k := y' - 1950) (n := y - 1950) (by omega); omega
 subst hy
 have hm : m = m' := by
  rcases Nat.lt_trichotomy m m' with c | c | c
  ·have := Mb_mono y h.m0 c h'.m1; omega
  ·exact c
  ·have := Mb_mono y h'.m0 c h.m1; omega
 subst hm
 have := h.d0
 have := h'.d0
 unfold days at e
 exact ⟨rfl, rfl, by omega⟩
def tmV (y m d s : Nat) : Int := -631152000 + ((days y m d * 86400 + s : Nat) : Int)
structure IsDay (t : Int) (y m d s : Nat) : Prop extends DayOk y m d where
 s1 : s < 86400
 t1 : t = tmV y m d s
theorem IsDay.range {t : Int} {y m d s : Nat} (h : IsDay t y m d s) : -631152000 ≤ t ∧ t ≤ 4102444799 := by
 have := h.toDayOk.max
 have := h.s1
 have e := h.t1
 unfold tmV at e
 omega
theorem IsDay.unique {t : Int} {y m d s y' m' d' s' : Nat} (h : IsDay t y m d s) (h' : IsDay t y' m' d' s') : y = y' ∧ m = m' ∧ d = d' ∧ s = s' := by
 have a := h.s1
 have a' := h'.s1
 have e := h.t1
 have e' := h'.t1
 unfold tmV at e e'
 obtain ⟨h1, h2, h3⟩ := h.toDayOk.unique h'.toDayOk (by omega)
 subst h1 h2 h3
 exact ⟨rfl, rfl, rfl, by omega⟩
theorem isDay_of {t : Int} {D s k m r : Nat} (ht : t = -631152000 + ((D * 86400 + s : Nat) : Int)) (hD : D ≤ 54786) (hs : s < 86400) (hk : r + Mb (1950 + k) m + Yd k = D) (hm0 : 1 ≤ m) (hm : m ≤ 12) (hr : r < md (1950 + k) m) : IsDay t (1950 + k) m (r + 1) s := by
 have : k < 150 := Yd_lt (by omega)
 refine ⟨⟨by omega, by omega, hm0, hm, by omega, hr⟩, hs, ?_⟩
 rw [ht]
 unfold tmV days
 rw [Nat.add_sub_cancel_left, Nat.add_sub_cancel]
 have : D = Yd k + Mb (1950 + k) m + r := by omega
 rw [this]
def tOk (y m d s : Int) : Bool := decide (1950 ≤ y ∧ y ≤ 2099 ∧ 1 ≤ m ∧ m ≤ 12 ∧ 1 ≤ d ∧ d ≤ (md y.toNat m.toNat : Int) ∧ 0 ≤ s ∧ s < 86400)
def tTm (y m d s : Int) : Int := if tOk y m d s then tmV y.toNat m.toNat d.toNat s.toNat else 0
theorem tOk_nat {y m d s : Int} (h : tOk y m d s = true) : ∃ y' m' d' s' : Nat, y = y' ∧ m = m' ∧ d = d' ∧ s = s' ∧ DayOk y' m' d' ∧ s' < 86400 := by
 unfold tOk at h
 rw [decide_eq_true_eq] at h
 obtain ⟨h1, h2, h3, h4, h5, h6, h7, h8⟩ := h
 refine ⟨y.toNat, m.toNat, d.toNat, s.toNat, by omega, by omega, by omega, by omega, ⟨by omega, by omega, by omega, by omega, by omega, by omega⟩, by omega⟩
theorem tOk_of {y m d s : Nat} (h : DayOk y m d) (hs : s < 86400) : tOk y m d s = true ∧ tTm y m d s = tmV y m d s := by
 have k : tOk y m d s = true := by
  unfold tOk
  rw [decide_eq_true_eq]
  obtain ⟨h1, h2, h3, h4, h5, h6⟩ := h
  simp only [Int.toNat_natCast]
  omega
 refine ⟨k, ?_⟩
 unfold tTm
 rw [k]
 rfl
end
end Go.Proofs.YtkogbinfhoiggaaGreatDoor
