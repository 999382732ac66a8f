/- Walks: append of noughts; the model's draws of bytes: l5DrawData, DrawHmac. -/
import Derived.Test.YtjkojofpkeglpabHmM
import Derived.Test.YtjkojofpkeglpabDrawN
namespace Go.Proofs.Ytjkojofpkeglpab
set_option linter.unusedVariables false
set_option linter.unusedSimpArgs false
open Go.RowKit

theorem byts_zero (k : Nat) : List.replicate k (Value.int .u8 0) = byts (fun _ => 0) k := by
  induction k with
  | zero => rfl
  | succ k ih => rw [List.replicate_succ', ih, byts_succ]

/-- An append of k noughts to a list of one's own. -/
theorem run_append_noughts (base : Nat) (ty : TypeId) (v : Value) (n k : Nat) (xs : List Value) (w : World) (hown : w.ownsRow base 5 1 v n xs) (hbase : base ≤ w.heap.size) (hk : n + k ≤ 1048576) :
    ∃ v' w', (Builtin.append_ #[22, 3] ty #[v, .int .i64 k]).run Try.prog w = .ok v' w' ∧ w'.ownsRow base 5 1 v' (n + k) (xs ++ byts (fun _ => 0) k) ∧ Below base w w' := by
  obtain ⟨i0, hi, hz0, hz1, hz2⟩ := info_parts Try.info5
  have hw : IntKind.i64.wrap (k : Int) = k := by rw [IntKind.wrap_i64]; omega
  have hneg : ¬ ((k : Int) < 0) := by omega
  have h48i : ¬ (281474976710656 < (k : Int)) := by omega
  have hlen : (xs ++ byts (fun _ => (0 : Int)) k).length = n + k := by rw [List.length_append, hown.1, byts_length, Nat.mul_one]
  have ht := Try.underlying22
  have htn := Try.underlying3
  have hzl : (Builtin.zeroCells (Value.int .u8 0).cells k).toList = byts (fun _ => 0) k := by rw [zeroCells_list, byts_zero]
  by_cases hk0 : k = 0
  · subst hk0
    have hw0 : IntKind.i64.wrap 0 = 0 := by rw [IntKind.wrap_i64]; decide
    refine ⟨v, w, ?_, by simpa [byts] using hown, Below.refl _ _⟩
    rcases hown.2 with ⟨rfl, rfl⟩ | ⟨g, cap, cur, rfl, _, _, hnc, _⟩
    · simp [Builtin.append_, run_underlying ht, run_underlying htn, sizeOf, typeInfo, hi, asInt, asIntOf, hw0, hz1, hz2]
    · simp [Builtin.append_, run_underlying ht, run_underlying htn, sizeOf, typeInfo, hi, asInt, asIntOf, hw0, hz1, hz2, hnc, storeCells]
  have grown (sc : Nat) (sb : Option Addr) (hsc : sc < n + k) (hv : v = .slice sb n sc) (hold : (Builtin.firstCells i0.size n (.slice sb n sc)).run Try.prog w.drew = .ok xs.toArray w.drew) (hfit : Builtin.nextslicecap (n + k) sc * i0.bytes ≤ 281474976710656) :
      ∃ v' w', (Builtin.append_ #[22, 3] ty #[v, .int .i64 k]).run Try.prog w = .ok v' w' ∧ w'.ownsRow base 5 1 v' (n + k) (xs ++ byts (fun _ => 0) k) ∧ Below base w w' := by
    have hg := Lib.run_append_grow_zeros w 22 3 ty 5 i0 (.int .u8 0) .i64 .i64 ht htn hi hz0 sb n sc xs hold k (by omega) (by omega) (by omega) (by omega) (by rw [hz2]; omega) hfit
    rw [← hv] at hg
    have hge := grownCap_ge w (n + k) sc 5
    have hcm : grownCap w (n + k) sc 5 ≤ maxLen := grownCap_le_maxLen w (n + k) sc 5 (by unfold maxLen; omega)
    generalize grownCap w (n + k) sc 5 = cap at *
    refine ⟨_, _, hg, ⟨by rw [hlen, Nat.mul_one], .inr ⟨w.heap.size, cap, _, rfl, hbase, heap_alloc_new w.drew _, hge, hcm, ?_, ?_⟩⟩, ?_⟩
    · have := hown.1
      simp [size_zeroCells, Value.cells]
      omega
    · have := hown.1
      rw [Array.toList_append, Array.toList_append, hzl, List.toList_toArray, Nat.mul_one, ← hlen]
      exact List.take_left
    · exact Below.trans (b := w.drew) ⟨rfl, rfl, rfl, Nat.le_refl _, fun _ _ => rfl⟩ ((Below.refl _ _).alloc (by exact hbase) _)
  rcases hown.2 with ⟨hv, hn0⟩ | ⟨g, cap, cur, hv, hbg, hg, hnc, hcm, hcs, htake⟩
  · have hx : xs = [] := List.eq_nil_of_length_eq_zero (by rw [hown.1, hn0])
    subst hn0
    subst hx
    refine grown 0 none (by omega) hv rfl ?_
    rw [hz2]
    simp only [Builtin.nextslicecap]
    rw [if_pos (by omega)]
    omega
  · by_cases hroom : n + k ≤ cap
    · have hfit : n + (byts (fun _ => (0 : Int)) k).length ≤ cur.size := by rw [byts_length, hcs]; omega
      have hst := run_storeCells_at Try.prog g n 5 (byts (fun _ => 0) k) 0 cur w hg (by simpa using hfit) (byts_one _ _)
      simp only [Nat.add_zero] at hst
      have hza : (Builtin.zeroCells (Value.int .u8 0).cells k).toList = byts (fun _ => 0) k := hzl
      subst hv
      refine ⟨.slice (some ⟨g, 0, none⟩) (n + k) cap, w.setRow g (cur.toList.take n ++ byts (fun _ => 0) k ++ cur.toList.drop (n + (byts (fun _ => (0 : Int)) k).length)).toArray, ?_, ⟨by rw [hlen, Nat.mul_one], .inr ⟨g, cap, _, rfl, hbg, setRow_heap w g cur _ 5 _ hg, hroom, hcm, ?_, ?_⟩⟩, ?_⟩
      · simp [Builtin.append_, run_underlying ht, run_underlying htn, sizeOf, typeInfo, zeroValue, hi, hz0, hz1, hz2, asInt, asIntOf, hw, hneg, h48i, hk0, hroom, hza, Addr.add_lit, hst]
      · simp only [List.size_toArray, List.length_append, List.length_take, List.length_drop, Array.length_toList, byts_length]
        omega
      · have h1 : cur.toList.take n = xs := by rw [← htake, Nat.mul_one]
        rw [h1, Nat.mul_one, ← hlen]
        exact List.take_left
      · exact ⟨rfl, rfl, rfl, by simp, fun q hq => setRow_other w g q _ (by omega)⟩
    · refine grown cap (some ⟨g, 0, none⟩) (by omega) hv ?_ ?_
      · rw [hz1]
        have := run_firstCells_some (P := Try.prog) w.drew 1 n ⟨g, 0, none⟩ n cap xs (by rw [hown.1]) (fun j u hj => World.ownsRow.cells hown (by rw [hv]; rfl) j u hj)
        exact this
      · rw [hz2]
        have hnc' : cap < n + k := by omega
        exact growslice_fits hnc' (by omega)

/-- An append of noughts, in a walk. -/
theorem wpList_append_noughts {ops : Array Oper} {rest : List Oper} {o : Oper} {a0 : Act} {Q : Exit → Act → World → Prop} {w : World} (hgd : o.guard = none) (s x : Operand)
    (ho : o.op = .call { callee := .builtin .append, args := #[s, x], argTypes := #[22, 3] })
    (base : Nat) (v : Value) (n k : Nat) (xs : List Value) (hs : a0.eval s = v) (hx : a0.eval x = .int .i64 k) (hown : w.ownsRow base 5 1 v n xs) (hbase : base ≤ w.heap.size) (hk : n + k ≤ 1048576)
    (h : ∀ v' w', w'.ownsRow base 5 1 v' (n + k) (xs ++ byts (fun _ => 0) k) → Below base w w' → wpList Try.prog ops Q rest (a0.put o.dst v') w') : wpList Try.prog ops Q (o :: rest) a0 w := by
  obtain ⟨v', w', hr, h1, h2⟩ := run_append_noughts base o.type v n k xs w hown hbase hk
  refine wpList_plain hgd fun K hK => ?_
  unfold Oper.wp execOp
  simp only [ho, resolve, invoke, builtin, Sem.run_bind, Sem.run_pure, Result.andThen_ok, List.map_toArray, List.map_cons, List.map_nil, hs, hx, hr]
  exact hK _ _ (h v' w' h1 h2)

/-- The call hands back some bytes in new memory; of what was there the cursor alone has turned. -/
def GivesData (w : World) (C : Nat) (a : Option Addr) (n cap : Nat) (m : Nat) (e : Ending) (w' : World) : Prop :=
  ∃ v k F, e = .returned v ∧ k ≤ m ∧ w'.ownsRow w.heap.size 5 1 v k (byts F k) ∧ (∀ i, i < k → 0 ≤ F i ∧ F i < 256) ∧ Cur w' C a n cap ∧ w.grownBy w' (some C)

theorem bseg_one8 (w : World) (x : Int) : BSeg (w.alloc (.cells #[.int .u8 x] 5)) (some ⟨w.heap.size, 0, none⟩) w.heap.size 0 1 (fun _ => x) := ⟨fun _ => rfl, fun i hi => by
    have := Blk.alloc w [.int .u8 x] 5
    have e : i = 0 := by omega
    subst e
    exact (this 0 _ rfl).1⟩
theorem gb_trans {C : Nat} {w w1 w2 : World} (h : w.grownBy w1 (some C)) (k : w1.grownBy w2 (some C)) : w.grownBy w2 (some C) :=
  ⟨k.os.trans h.os, k.tape.trans h.tape, k.output.trans h.output, Nat.le_trans h.size k.size, fun i hi hn => (k.block i (Nat.lt_of_lt_of_le hi h.size) hn).trans (h.block i hi hn)⟩
theorem gb_below {C B : Nat} {w w1 : World} (h : Below B w w1) (hB : w.heap.size ≤ B) : w.grownBy w1 (some C) :=
  ⟨h.os, h.tape, h.output, h.size, fun i hi _ => h.block i (by omega)⟩
theorem gb_later {C B : Nat} {w w1 w2 : World} (h : w.grownBy w1 (some C)) (k : Below B w1 w2) (hB : w.heap.size ≤ B) : w.grownBy w2 (some C) :=
  ⟨k.os.trans h.os, k.tape.trans h.tape, k.output.trans h.output, Nat.le_trans h.size k.size, fun i hi hn => (k.block i (by omega)).trans (h.block i hi hn)⟩
theorem gb_touch {C : Nat} {w w1 : World} (h : Touch C w w1) : w.grownBy w1 (some C) := h.grown
theorem owns_gb {C : Nat} {w w1 : World} {base n : Nat} {v : Value} {xs : List Value} (h : w.ownsRow base 5 1 v n xs) (k : w.grownBy w1 (some C)) (hC : C < base) : w1.ownsRow base 5 1 v n xs := by
  refine h.kept k ?_
  cases hv : v.ownBlock with
  | none => exact .inl rfl
  | some g => have := (h.lt g hv).1; exact .inr (fun e => by injection e with e; omega)
theorem bseg_gb {C : Nat} {w w1 : World} {a : Option Addr} {b off n : Nat} {f : Nat → Int} (h : BSeg w a b off n f) (k : w.grownBy w1 (some C)) (hC : 0 < n → b ≠ C) : BSeg w1 a b off n f :=
  ⟨h.at', fun i hi => (World.cell?_of_block (a := ⟨b, off + i, none⟩) (k.block b (h.lt (by omega)) (by simp; exact hC (by omega)))).trans (h.cell i hi)⟩

set_option maxHeartbeats 1600000 in
set_option maxRecDepth 100000 in
theorem l5DrawData_any (C : Nat) (a : Option Addr) (b off n cap : Nat) (f : Nat → Int) (m : Nat) (w : World) (hC : Cur w C a n cap) (hK : Code w C a b off n f) (hn : n ≤ 1048576) (hm0 : 0 < m) (hm1 : m ≤ 256) (hCw : C < w.heap.size) :
    Calls Try.prog 39 #[.pointer (some ⟨C, 0, none⟩), .int .i64 (m : Int)] w fun e w' => GivesData w C a n cap m e w' := by
  have HO0 := hide (World.ownsRow_made (base := w.heap.size) (e := 5) (size := 1) w #[] 0 (Nat.le_refl _) (by simp) rfl)
  have E0 := Ext.alloc w (.cells #[] 5)
  have hC1 := hC.of_block (E0.block C hCw)
  have G0 : w.grownBy (w.alloc (.cells #[] 5)) (some C) := gb_below E0 (Nat.le_refl _)
  have HK1 := hide (hK.grow G0)
  have HC1 := hide hC1
  have HG := hide G0
  have HK := hide hK
  clear hC hK hC1 G0 E0
  go_enter Try.func39, Try.ntmps39
  go_wp2_with fail
  refine (l1Below_any C a b off n cap f (m : Int) _ HC1.out HK1.out hn (by omega) (by omega)).mono ?_
  rintro e w1 ⟨x, rfl, x0, x1, hC2, T⟩
  have HC2 := hide hC2
  have HG2 := hide (gb_trans HG.out (gb_touch T))
  have HO2 := hide (owns_gb HO0.out (gb_touch T) (by omega))
  clear hC2 T HC1 HK1 HG HO0
  go_wp2
  go_loopw [5, 6] (fun v i wr => ∃ (k : Nat) (F : Nat → Int) (r : Int), i = .int .i64 r ∧ 0 ≤ r ∧ (k : Int) + r ≤ m ∧ wr.ownsRow w.heap.size 5 1 v k (byts F k) ∧ (∀ i, i < k → 0 ≤ F i ∧ F i < 256) ∧ Cur wr C a n cap ∧ w.grownBy wr (some C)) (fun _ i _ => (intOf i).toNat)
  case atStart => exact ⟨0, fun _ => 0, x, rfl, x0, by omega, HO2.out, fun i hi => absurd hi (Nat.not_lt_zero _), HC2.out, HG2.out⟩
  case round =>
    clear HO2 HC2 HG2
    obtain ⟨k, F, r, rfl, r0, r1, hO, hF, hC, hG⟩ := hrel
    have HO := hide hO
    have HF := hide hF
    have HC := hide hC
    have HG := hide hG
    clear hO hF hC hG
    by_cases hr : 0 < r
    · go_wp2_with fail
      refine (l1Byte_any C a b off n cap f wr HC.out (HK.out.grow HG.out) hn).mono ?_
      rintro e w2 ⟨y, rfl, y0, y1, hC2, T⟩
      replace HC := hide hC2
      replace HO := hide (owns_gb HO.out (gb_touch T) hCw)
      replace HG := hide (gb_trans HG.out (gb_touch T))
      clear hC2 T
      have u0 : y % 256 = y := by omega
      have HX := hide (bseg_one8 w2 y)
      have HO2 := hide (HO.out.alloc (.cells #[.int .u8 y] 5))
      have Hsz := hide HG.out.size
      go_wp2_with (at_builtin; refine wpList_append_bs rfl _ _ rfl w.heap.size _ k (byts F k) rfl HO2.out _ w2.heap.size 0 1 1 (fun _ => y) rfl HX.out (by omega) (by have := Hsz.out; simp; omega) ?_)
      intro v' w3 h2 h3
      rw [byts_append] at h2
      replace HO := hide h2
      have E3 : Below w.heap.size w2 w3 := Below.trans ((Below.refl _ _).alloc Hsz.out _) h3
      replace HC := hide (HC.out.of_block (E3.block C hCw))
      replace HG := hide (gb_later HG.out E3 (Nat.le_refl _))
      replace HF : Hid (∀ i, i < k + 1 → 0 ≤ catF F k (fun _ => y) i ∧ catF F k (fun _ => y) i < 256) := hide (fun i hi => by
        unfold catF
        split
        · exact HF.out i (by assumption)
        · show 0 ≤ y ∧ y < 256; omega)
      clear h2 h3 E3 HO2 HX
      go_wp2
      go_roundw
      case rel => exact ⟨k + 1, _, r - 1, rfl, by omega, by omega, HO.out, HF.out, HC.out, HG.out⟩
      case measure => simp [intOf]; omega
    · go_wp2
      go_ret
      exact ⟨_, k, F, rfl, by omega, HO.out, HF.out, HC.out, HG.out⟩

/-- A key and data are drawn. -/
def GivesKD (w : World) (e : Ending) (w' : World) : Prop :=
  ∃ (a : Option Addr) (b off n cap : Nat) (f : Nat → Int) (da : Option Addr) (db doff m dcap : Nat) (fd : Nat → Int), e = .returned (.tuple #[.slice a n cap, .slice da m dcap]) ∧ n ≤ 10001 ∧ m ≤ 60 ∧ BSeg w' a b off n f ∧ BSeg w' da db doff m fd ∧ (∀ i, i < n → 0 ≤ f i ∧ f i < 256) ∧ (∀ i, i < m → 0 ≤ fd i ∧ fd i < 256) ∧ Below w.heap.size w w'
theorem gb_to_below {w w1 w2 : World} (h : Below w.heap.size w w1) (k : w1.grownBy w2 (some w.heap.size)) : Below w.heap.size w w2 :=
  ⟨k.os.trans h.os, k.tape.trans h.tape, k.output.trans h.output, Nat.le_trans h.size k.size, fun i hi => (k.block i (Nat.lt_of_lt_of_le hi h.size) (by simp; omega)).trans (h.block i hi)⟩
theorem bseg_made (w : World) (N : Nat) : BSeg (w.alloc (.cells (madeCells #[.int .u8 0] N) 5)) (some ⟨w.heap.size, 0, none⟩) w.heap.size 0 N (fun _ => 0) :=
  BSeg.of_row (World.rowIs_made w (.int .u8 0) N 5) (Nat.le_refl _)

set_option maxHeartbeats 3200000 in
set_option maxRecDepth 100000 in
theorem drawHmac_any (a : Option Addr) (b off n cap : Nat) (f : Nat → Int) (w : World) (hs : BSeg w a b off n f) (hB : ∀ i, i < n → 0 ≤ f i ∧ f i ≤ 255) (hn : n ≤ 1048576) :
    Calls Try.prog 10 #[.slice a n cap] w fun e w' => GivesKD w e w' := by
  go_enter Try.func10, Try.ntmps10
  go_wp2_with fail
  refine (l1New_any a b off n cap f _ hs hB hn).mono ?_
  rintro e w1 ⟨rfl, hC1, hlt1, B1⟩
  have K1 : Code w1 w.heap.size a b off n f := ⟨hs.of_all B1, hB, fun h => by have := hs.lt h; omega⟩
  have HK := hide K1
  have Hlt := hide hlt1
  have HB1 := hide B1
  have HC1 := hide hC1
  clear hs B1 K1 hC1 hlt1
  go_wp2_with fail
  refine (l5DrawData_any w.heap.size a b off n cap f 20 _ HC1.out HK.out hn (by omega) (by omega) Hlt.out).mono ?_
  rintro e w2 ⟨v, k, F, rfl, hk, hO, hF, hC2, hG2⟩
  obtain ⟨ka, kg, kc, rfl, hkg, -, -, hkB⟩ := owns_seg hO
  have HC2 := hide hC2
  have HG2 := hide hG2
  have HKS := hide hkB.toBSeg
  have HKN : Hid (0 < k → kg ≠ w.heap.size) := hide (fun _ => by have := Hlt.out; omega)
  have HKF := hide hF
  have HKL : Hid (k ≤ 10001) := hide (by omega)
  clear hO hF hC2 hG2 hkB HC1 hkg
  go_wp2_with fail
  refine (l1Below_any w.heap.size a b off n cap f 10 _ HC2.out (HK.out.grow HG2.out) hn (by omega) (by omega)).mono ?_
  rintro e w3 ⟨x, rfl, x0, x1, hC3, T3⟩
  have HC := hide hC3
  have HG := hide (gb_trans HG2.out (gb_touch T3))
  replace HKS := hide (bseg_gb HKS.out (gb_touch T3) HKN.out)
  clear hC3 T3 HC2 HG2
  by_cases z0 : x = 0
  · have z1 : (x == 0) = true := by simp [z0]
    have Z0 := hide z0
    clear z0
    go_wp2_with fail
    refine (l1Below_any w.heap.size a b off n cap f 2 _ HC.out (HK.out.grow HG.out) hn (by omega) (by omega)).mono ?_
    rintro e w4 ⟨y, rfl, y0, y1, hC4, T4⟩
    replace HC := hide hC4
    replace HG := hide (gb_trans HG.out (gb_touch T4))
    clear hC4 T4 HKS HKN HKF HKL
    obtain ⟨N, hN⟩ : ∃ N : Nat, 64 + y = (N : Int) := ⟨(64 + y).toNat, by omega⟩
    have hmk := run_make_row' (P := Try.prog) 22 5 (.int .u8 0) 1 Try.underlying22 Try.info5 rfl .i64 .i64 N (by omega) (by omega)
    have n0 : 0 ≤ (N : Int) := by omega
    have n1 : (N : Int) ≤ 65 := by omega
    have E5 := Ext.alloc w4 (.cells (madeCells #[.int .u8 0] N) 5)
    have HKS := hide (bseg_made w4 N)
    have HKN : Hid (0 < N → w4.heap.size ≠ w.heap.size) := hide (fun _ => by have := Hlt.out; have := HG.out.size; omega)
    have HKF : Hid (∀ i, i < N → 0 ≤ (fun _ => (0 : Int)) i ∧ (fun _ => (0 : Int)) i < 256) := hide (fun i hi => by simp)
    have HKL : Hid (N ≤ 10001) := hide (by omega)
    replace HC := hide (HC.out.of_block (E5.block w.heap.size (Nat.lt_of_lt_of_le Hlt.out HG.out.size)))
    replace HG := hide (gb_later HG.out E5 HG.out.size)
    clear E5
    go_wp2_with fail
    refine (l5DrawData_any w.heap.size a b off n cap f 60 _ HC.out (HK.out.grow HG.out) hn (by omega) (by omega) (Nat.lt_of_lt_of_le Hlt.out HG.out.size)).mono ?_
    rintro e w9 ⟨v2, k2, F2, rfl, hk2, hO2, hF2, hC9, hG9⟩
    have HS := hide (bseg_gb HKS.out hG9 HKN.out)
    have HG9 := hide (gb_trans HG.out hG9)
    obtain ⟨da, dg, dc, rfl, -, -, -, hdB⟩ := owns_seg hO2
    have HD := hide hdB.toBSeg
    have HF2 := hide hF2
    clear hO2 hF2 hC9 hG9 hdB HC HG HKS
    go_wp2
    go_ret2
    exact ⟨_, _, _, _, _, _, _, _, _, _, _, _, rfl, HKL.out, hk2, HS.out, HD.out, HKF.out, HF2.out, gb_to_below HB1.out HG9.out⟩
  by_cases z2 : x = 1
  · have z1 : (x == 0) = false := by simp; omega
    have z3 : (x == 1) = true := by simp [z2]
    have Z0 := hide z2
    clear z0 z2
    go_wp2_with fail
    refine (l1Once_any w.heap.size a b off n cap f 6 _ HC.out (HK.out.grow HG.out) hn (by omega) (by omega)).mono ?_
    rintro e w4 ⟨t, rfl, hC4, T4⟩
    replace HC := hide hC4
    replace HG := hide (gb_trans HG.out (gb_touch T4))
    replace HKS := hide (bseg_gb HKS.out (gb_touch T4) HKN.out)
    clear hC4 T4
    cases t
    · skip
      go_wp2_with fail
      refine (l5DrawData_any w.heap.size a b off n cap f 60 _ HC.out (HK.out.grow HG.out) hn (by omega) (by omega) (Nat.lt_of_lt_of_le Hlt.out HG.out.size)).mono ?_
      rintro e w9 ⟨v2, k2, F2, rfl, hk2, hO2, hF2, hC9, hG9⟩
      have HS := hide (bseg_gb HKS.out hG9 HKN.out)
      have HG9 := hide (gb_trans HG.out hG9)
      obtain ⟨da, dg, dc, rfl, -, -, -, hdB⟩ := owns_seg hO2
      have HD := hide hdB.toBSeg
      have HF2 := hide hF2
      clear hO2 hF2 hC9 hG9 hdB HC HG HKS
      go_wp2
      go_ret2
      exact ⟨_, _, _, _, _, _, _, _, _, _, _, _, rfl, HKL.out, hk2, HS.out, HD.out, HKF.out, HF2.out, gb_to_below HB1.out HG9.out⟩
    · go_wp2_with fail
      refine (l1Below_any w.heap.size a b off n cap f 2 _ HC.out (HK.out.grow HG.out) hn (by omega) (by omega)).mono ?_
      rintro e w5 ⟨y, rfl, y0, y1, hC4, T4⟩
      replace HC := hide hC4
      replace HG := hide (gb_trans HG.out (gb_touch T4))
      clear hC4 T4 HKS HKN HKF HKL
      obtain ⟨N, hN⟩ : ∃ N : Nat, 10000 + y = (N : Int) := ⟨(10000 + y).toNat, by omega⟩
      have hmk := run_make_row' (P := Try.prog) 22 5 (.int .u8 0) 1 Try.underlying22 Try.info5 rfl .i64 .i64 N (by omega) (by omega)
      have n0 : 0 ≤ (N : Int) := by omega
      have n1 : (N : Int) ≤ 10001 := by omega
      have E5 := Ext.alloc w5 (.cells (madeCells #[.int .u8 0] N) 5)
      have HKS := hide (bseg_made w5 N)
      have HKN : Hid (0 < N → w5.heap.size ≠ w.heap.size) := hide (fun _ => by have := Hlt.out; have := HG.out.size; omega)
      have HKF : Hid (∀ i, i < N → 0 ≤ (fun _ => (0 : Int)) i ∧ (fun _ => (0 : Int)) i < 256) := hide (fun i hi => by simp)
      have HKL : Hid (N ≤ 10001) := hide (by omega)
      replace HC := hide (HC.out.of_block (E5.block w.heap.size (Nat.lt_of_lt_of_le Hlt.out HG.out.size)))
      replace HG := hide (gb_later HG.out E5 HG.out.size)
      clear E5
      go_wp2_with fail
      refine (l5DrawData_any w.heap.size a b off n cap f 60 _ HC.out (HK.out.grow HG.out) hn (by omega) (by omega) (Nat.lt_of_lt_of_le Hlt.out HG.out.size)).mono ?_
      rintro e w9 ⟨v2, k2, F2, rfl, hk2, hO2, hF2, hC9, hG9⟩
      have HS := hide (bseg_gb HKS.out hG9 HKN.out)
      have HG9 := hide (gb_trans HG.out hG9)
      obtain ⟨da, dg, dc, rfl, -, -, -, hdB⟩ := owns_seg hO2
      have HD := hide hdB.toBSeg
      have HF2 := hide hF2
      clear hO2 hF2 hC9 hG9 hdB HC HG HKS
      go_wp2
      go_ret2
      exact ⟨_, _, _, _, _, _, _, _, _, _, _, _, rfl, HKL.out, hk2, HS.out, HD.out, HKF.out, HF2.out, gb_to_below HB1.out HG9.out⟩
  have z1 : (x == 0) = false := by simp; omega
  have z3 : (x == 1) = false := by simp; omega
  clear z0 z2
  go_wp2_with fail
  refine (l5DrawData_any w.heap.size a b off n cap f 60 _ HC.out (HK.out.grow HG.out) hn (by omega) (by omega) (Nat.lt_of_lt_of_le Hlt.out HG.out.size)).mono ?_
  rintro e w9 ⟨v2, k2, F2, rfl, hk2, hO2, hF2, hC9, hG9⟩
  have HS := hide (bseg_gb HKS.out hG9 HKN.out)
  have HG9 := hide (gb_trans HG.out hG9)
  obtain ⟨da, dg, dc, rfl, -, -, -, hdB⟩ := owns_seg hO2
  have HD := hide hdB.toBSeg
  have HF2 := hide hF2
  clear hO2 hF2 hC9 hG9 hdB HC HG HKS
  go_wp2
  go_ret2
  exact ⟨_, _, _, _, _, _, _, _, _, _, _, _, rfl, HKL.out, hk2, HS.out, HD.out, HKF.out, HF2.out, gb_to_below HB1.out HG9.out⟩

end Go.Proofs.Ytjkojofpkeglpab
