/- Walks: lists of pieces. Walks: three bytes of a number, by the program; what hands back bytes of its own. -/
import Derived.Test.YtnnandjphlajnaaGreatDoorKt01
import Derived.Test.YtnnandjphlajnaaGreatDoorKt30
import Derived.Test.YtnnandjphlajnaaGreatDoorKt36
import Derived.Test.YtnnandjphlajnaaGreatDoorKt38
import Derived.Test.YtnnandjphlajnaaGreatDoorKt02
import Derived.Test.YtnnandjphlajnaaGreatDoorKt34
namespace Go.Proofs.YtnnandjphlajnaaGreatDoor

section
set_option linter.unusedVariables false
set_option linter.unusedSimpArgs false

open Go.RowKit

/-- A call that hands back a new list of new pieces, whose items tell these. -/
def GivesPs (w : World) (Cs : List (List Ic)) (e : Ending) (w' : World) : Prop :=
  ∃ cap P, e = .returned (.slice (some ⟨w.heap.size, 0, none⟩) P.length cap) ∧ w'.ownsRow w.heap.size 83 1 (.slice (some ⟨w.heap.size, 0, none⟩) P.length cap) P.length (P.map (·.1)) ∧ Pcs (w.heap.size + 1) w'.heap.size w' P ∧ P.map (fun p => p.2.map ct) = Cs ∧ Ext w w'

theorem set_mid {α : Type} (L : List α) (x y : α) (m : Nat) : (L ++ List.replicate (m + 1) x).set L.length y = (L ++ [y]) ++ List.replicate m x := by
  rw [List.set_append_right _ _ (Nat.le_refl _), Nat.sub_self, List.replicate_succ, List.set_cons_zero]
  simp

theorem Tryz.infoPc : (Tryz.prog.info? 83).map (fun i => (i.zero, i.size, i.bytes)) = some (some .nilIface, 1, 16) := by kernel_rfl

theorem owns_nils (w : World) (n : Nat) (hn : n ≤ 1048576) : (w.alloc (.cells (madeCells #[.nilIface] n) 83)).ownsRow w.heap.size 83 1 (.slice (some ⟨w.heap.size, 0, none⟩) n n) n (List.replicate n .nilIface) := by
  have := World.ownsRow_lit (e := 83) (size := 1) (base := w.heap.size) w (madeCells #[.nilIface] n) n (Nat.le_refl _) (by unfold maxLen; omega) (by rw [size_madeCells]; simp)
  have e : (madeCells #[.nilIface] n).toList = List.replicate n .nilIface := by
    refine List.ext_getElem ?_ ?_
    · simp [size_madeCells]
    · intro i h1 h2
      simp [madeCells, Nat.mod_one]
  rwa [e] at this

theorem run_make_pcs (n : Nat) (hn : n ≤ 1048576) (w : World) : (Instr.makeSlice 131 (.int .i64 (n : Int)) (.int .i64 (n : Int))).run Tryz.prog w = .ok (.slice (some ⟨w.heap.size, 0, none⟩) n n) (w.alloc (.cells (madeCells #[.nilIface] n) 83)) := by
  obtain ⟨i, hi, hz, hs, hb⟩ := info_parts Tryz.infoPc
  have hr := run_make (P := Tryz.prog) w 131 83 i _ Tryz.underlying131 hi hz .i64 .i64 n n (by omega) (Int.le_refl _) (by rw [hb]; omega) (by omega)
  simp only [Int.toNat_natCast, hs, Nat.mul_one] at hr
  exact hr

/-- An append of one piece. -/
theorem wpList_appP {ops : Array Oper} {rest : List Oper} {o : Oper} {a0 : Act} {Q : Exit → Act → World → Prop} {W2 : World} (hgd : o.guard = none) (s x : Operand)
    (ho : o.op = .call { callee := .builtin .append, args := #[s, x], argTypes := #[131, 131] })
    (B : Nat) (v : Value) (n : Nat) (xs : List Value) (hs : a0.eval s = v) (hA : W2.ownsRow B 83 1 v n xs) (b : Nat) (y : Value) (hx : a0.eval x = .slice (some ⟨b, 0, none⟩) 1 1) (hc : W2.cell? ⟨b, 0, none⟩ = some y) (hy : y.oneCell' = true)
    (hm : n ≤ 100000) (hbase : B ≤ W2.heap.size)
    (h : ∀ v' w', w'.ownsRow B 83 1 v' (n + 1) (xs ++ [y]) → W2.grownBy w' v.ownBlock → wpList Tryz.prog ops Q rest (a0.put o.dst v') w') : wpList Tryz.prog ops Q (o :: rest) a0 W2 := by
  refine wpList_plain hgd fun K hK => ?_
  obtain ⟨i0, hi, hz0, hz1, hz2⟩ := info_parts Tryz.infoPc
  obtain ⟨v', w', hr, h2, h3, h4, h5⟩ := run_append_own_at (P := Tryz.prog) W2 B 131 o.type 83 i0 .nilIface 1 16 Tryz.underlying131 hi hz0 hz1 hz2 rfl (by decide) v n xs hA ⟨b, 0, none⟩ 1 1 [y] rfl (by
    intro j u hj
    cases j with
    | zero => simp at hj; subst hj; simpa [Addr.add] using hc
    | succ j => simp at hj) (by intro u hu; rw [List.mem_singleton] at hu; subst hu; exact hy) (by unfold maxLen; omega) (by omega) hbase
  unfold Oper.wp execOp
  simp only [ho, resolve, invoke, builtin, Sem.run_bind, Sem.run_pure, Result.andThen_ok, List.map_toArray, List.map_cons, List.map_nil, hs, hx, hr]
  exact hK _ _ (h v' w' h2 h3)

set_option maxHeartbeats 3200000 in
set_option maxRecDepth 100000 in
theorem mappedInt_any (a : Option Addr) (b off n cap : Nat) (f : Nat → Int) (w : World) (hs : Seg w a b off n f) (hn : n ≤ 1000) (hf : ∀ i, i < n → -9223372036854775808 ≤ f i ∧ f i ≤ 9223372036854775807) :
    Calls Tryz.prog 170 #[.slice a n cap, .func (.func 101) #[] #[]] w fun e w' => GivesPs w ((List.range n).map (fun i => [intC (f i)])) e w' := by
  have HN := hide (owns_nils w n (by omega))
  have hmk := run_make_pcs n (by omega)
  have HI : Hid (∀ i, i < n → ∀ W, Calls Tryz.prog 101 #[.int .i64 (f i)] W fun e w' => GivesPc W [intC (f i)] e w') := fun i hi W => intPiece_any (f i) W (hf i hi).1 (hf i hi).2
  have Hs := hide hs
  clear hs hf
  go_enter Tryz.func170, Tryz.ntmps170
  go_wp2
  clear hmk
  go_loopw [13] (fun k wr => ∃ (j : Nat) (P : List (Value × List It)), j ≤ n ∧ k = .int .i64 (j : Int) ∧ P.length = j ∧ wr.ownsRow w.heap.size 83 1 (.slice (some ⟨w.heap.size, 0, none⟩) n n) n (P.map (·.1) ++ List.replicate (n - j) .nilIface) ∧ Pcs (w.heap.size + 1) wr.heap.size wr P ∧ P.map (fun p => p.2.map ct) = (List.range j).map (fun i => [intC (f i)]) ∧ Ext w wr) (fun k _ => n - (intOf k).toNat)
  case atStart => exact ⟨0, [], Nat.zero_le _, rfl, rfl, HN.out, Pcs.nil _ _ _ (Nat.le_refl _), rfl, Ext.alloc _ _⟩
  case round =>
    clear HN
    obtain ⟨j, P, hj, rfl, hPl, hO, hP, hC, hE⟩ := hrel
    have HO := hide hO
    have HP := hide hP
    have HC := hide hC
    have HE := hide hE
    have HPl := hide hPl
    by_cases hlt : j < n
    · have hjk : (j : Int) < (n : Int) := by omega
      obtain rfl := Hs.out.at' (by omega)
      have cj := (Hs.out.of_all HE.out).cell j hlt
      have HIj := hide (HI.out j hlt wr)
      clear hO hP hC hE hPl
      have W1 : Hid (wrap64 ((j : Int) + 1) = (j : Int) + 1) := by show _ = _; unfold wrap64; omega
      go_wp2_with fail
      refine HIj.out.mono ?_
      rintro e2 w2 ⟨v2, L2, rfl, h2, h2c, h2E⟩
      have H2 := hide h2
      have H2c := hide h2c
      have H2E := hide h2E
      have hO2 := ownsRow_ext HO.out h2E
      have cz : w2.cell? ⟨w.heap.size, j, none⟩ = some .nilIface := row_cell1 hO2 (by
        rw [List.getElem?_append_right (by simp [HPl.out]), List.length_map, HPl.out, Nat.sub_self, List.getElem?_replicate, if_pos (by omega)])
      have fz : w2.frozen? ⟨w.heap.size, j, none⟩ = false := World.ownsRow.frozenAt hO2 j
      obtain ⟨tg, aa, nn, cc, hv⟩ : ∃ tg aa nn cc, v2 = .iface 239 (.agg #[.int .i64 tg, .slice aa nn cc]) ∨ v2 = .iface 162 (.agg #[.int .i64 tg, .slice aa nn cc]) := by
        obtain ⟨tg, aa, nn, cc, h | h⟩ := h2.its w2 (Agr.refl _ _ _)
        · exact ⟨tg, aa, nn, cc, .inl h.1⟩
        · exact ⟨tg, aa, nn, cc, .inr h.1⟩
      have HO2 := hide hO2
      clear h2 h2c h2E hO2
      have hst : ∀ v2, Pce wr.heap.size w2.heap.size w2 v2 L2 → (w2.setCell ⟨w.heap.size, j, none⟩ v2).ownsRow w.heap.size 83 1 (.slice (some ⟨w.heap.size, 0, none⟩) n n) n ((P ++ [(v2, L2)]).map (·.1) ++ List.replicate (n - (j + 1)) .nilIface) ∧ Pcs (w.heap.size + 1) (w2.setCell ⟨w.heap.size, j, none⟩ v2).heap.size (w2.setCell ⟨w.heap.size, j, none⟩ v2) (P ++ [(v2, L2)]) ∧ Ext w (w2.setCell ⟨w.heap.size, j, none⟩ v2) := fun v2 hv2 => by
        have hR : w.heap.size < wr.heap.size := (HO.out.lt w.heap.size rfl).2
        have hbk : ∀ k, k ≠ w.heap.size → (w2.setCell ⟨w.heap.size, j, none⟩ v2).heap[k]? = w2.heap[k]? := fun k hk => Below.heap_setCell _ _ _ _ (by simpa using hk)
        have hsz : (w2.setCell ⟨w.heap.size, j, none⟩ v2).heap.size = w2.heap.size := by simp [World.setCell]
        have hs2 : wr.heap.size ≤ w2.heap.size := Below.size H2E.out
        refine ⟨?_, ?_, Below.setCell (p := ⟨w.heap.size, j, none⟩) (Ext.trans HE.out H2E.out) (Nat.le_refl _) _⟩
        · have := (World.ownsRow.stored HO2.out j v2).1
          have e : (P.map (·.1) ++ List.replicate (n - j) Value.nilIface).set j v2 = (P ++ [(v2, L2)]).map (·.1) ++ List.replicate (n - (j + 1)) .nilIface := by
            have h1 := set_mid (P.map (·.1)) Value.nilIface v2 (n - (j + 1))
            rw [List.length_map, HPl.out, show n - (j + 1) + 1 = n - j by omega] at h1
            rw [h1, List.map_append]
            rfl
          rw [e] at this
          exact this
        · rw [hsz]
          refine Pcs.add (W := wr) (E := wr.heap.size) HP.out (fun k h1 h2 => (hbk k (by omega)).trans (Below.block H2E.out k h2)) (by rw [hsz]; exact hs2) (hv2.keep (fun k h1 h2 => hbk k (by omega)) (by rw [hsz]; exact Nat.le_refl _)) (by omega) hs2
      have Hst := hide (hst v2 H2.out)
      clear hst
      have HNC : Hid ((P ++ [(v2, L2)]).map (fun p => p.2.map ct) = (List.range (j + 1)).map (fun i => [intC (f i)])) := by
        show _ = _
        rw [List.map_append, HC.out, List.range_succ, List.map_append]
        congr 1
        show [L2.map ct] = _
        rw [H2c.out]
        rfl
      rcases hv with hv | hv
      all_goals
        have Hv := hide hv
        clear H2
        subst hv
        go_wp2
        refine ⟨⟨j + 1, P ++ [(_, L2)], by omega, by (try rw [W1.out]); congr 1, by rw [List.length_append, HPl.out]; rfl, Hst.out.1, Hst.out.2.1, HNC.out, Hst.out.2.2⟩, ?_⟩
        try rw [W1.out]
        show n - ((j : Int) + 1).toNat < n - ((j : Int)).toNat
        omega
    · obtain rfl : j = n := by omega
      have hjk : ¬ (j : Int) < (j : Int) := by omega
      clear hO hP hC hE hPl
      have HO3 := HO.out
      rw [Nat.sub_self, List.replicate_zero, List.append_nil] at HO3
      have HO4 := hide HO3
      clear HO3 HO
      go_wp2
      go_ret
      exact ⟨j, P, by rw [HPl.out]; rfl, by rw [HPl.out]; exact HO4.out, HP.out, HC.out, HE.out⟩

theorem intPieces_any (a : Option Addr) (b off n cap : Nat) (f : Nat → Int) (w : World) (hs : Seg w a b off n f) (hn : n ≤ 1000) (hf : ∀ i, i < n → -9223372036854775808 ≤ f i ∧ f i ≤ 9223372036854775807) :
    Calls Tryz.prog 103 #[.slice a n cap] w fun e w' => GivesPs w ((List.range n).map (fun i => [intC (f i)])) e w' := by
  have HM := hide (mappedInt_any a b off n cap f w hs hn hf)
  clear hs hf
  go_enter Tryz.func103, Tryz.ntmps103
  go_wp2_with fail
  refine HM.out.mono ?_
  rintro e w1 ⟨c1, P, rfl, h1, h2, h3, h4⟩
  have H1 := hide h1
  have H2 := hide h2
  have H3 := hide h3
  have H4 := hide h4
  clear h1 h2 h3 h4 HM
  go_wp2
  go_ret
  exact ⟨c1, P, rfl, H1.out, H2.out, H3.out, H4.out⟩

set_option maxHeartbeats 1600000 in
theorem natPiece_any (a : Option Addr) (b off n cap : Nat) (f : Nat → Int) (w : World) (hs : Seg w a b off n f) (hok : natOk n f = true) (hb : bitsOf n f ≤ 512) :
    Calls Tryz.prog 102 #[.slice a n cap] w fun e w' => GivesPc w [natC n f] e w' := by
  have hn : n ≤ 64 := ((natOk_iff n f).1 hok).2.1
  have hbp : 0 ≤ bitsOf n f := by unfold bitsOf; split <;> omega
  have hq : bitsQ n f = bitsOf n f := by unfold bitsQ; rw [hok]; rfl
  have HB := hide (implNatBits_any a b off n cap f w hs (by omega))
  rw [hq] at HB
  have hbt : bytB n f ((bitsOf n f + 1 + 7) / 8) = true := by unfold bytB; rw [hok]; simp; omega
  have hm : ((bitsOf n f + 1 + 7) / 8).toNat = nsz n f := by unfold nsz; congr 2; omega
  have HNb : Hid (∀ W, Ext w W → Calls Tryz.prog 169 #[.slice a n cap, .int .i64 ((bitsOf n f + 1 + 7) / 8)] W fun e w' => GivesB W (nsz n f) (fun p => byt n f (nsz n f - 1 - p)) true e w') := fun W h => by
    have := implNatBytes_any a b off n cap f ((bitsOf n f + 1 + 7) / 8) W (hs.of_all h) (by omega)
    unfold GivesBytes at this
    rw [hbt, if_pos rfl, hm] at this
    exact this
  have HBf := hide (fun W => bytesFor_any (bitsOf n f + 1) W (by omega) (by omega))
  have w1 : wrap64 (bitsOf n f + 1) = bitsOf n f + 1 := by unfold wrap64; omega
  have HNC : Hid (natC n f = ⟨2, 0, (List.range (nsz n f)).map (fun p => byt n f (nsz n f - 1 - p))⟩) := rfl
  clear hm hbt hs hbp hb hq hok
  generalize natC n f = C at *
  generalize (bitsOf n f + 1 + 7) / 8 = sz at *
  generalize bitsOf n f = Bq at *
  generalize (fun p => byt n f (nsz n f - 1 - p)) = F at *
  generalize nsz n f = M at *
  go_enter Tryz.func102, Tryz.ntmps102
  go_wp2_with fail
  refine HB.out.mono ?_
  rintro e W1 ⟨rfl, hw1⟩
  obtain rfl := hw1.symm
  go_wp2_with fail
  refine (HBf.out _).mono ?_
  rintro e W2 ⟨rfl, hw⟩
  obtain rfl := hw.symm
  go_wp2_with fail
  refine (HNb.out _ (Ext.refl _)).mono ?_
  rintro e W3 ⟨ya, yg, yc, rfl, hyg, hyO, hyE⟩
  have HO := hide hyO
  have HE3 := hide hyE
  clear hyO hyE
  go_wp2_with fail
  refine (leafPiece_any 2 ya M yc W3).mono ?_
  rintro e W4 ⟨rfl, hw⟩
  obtain rfl := hw.symm
  go_wp2
  go_ret
  exact ⟨_, _, rfl, Pce.leaf 2 HO.out hyg, by rw [List.map_cons, ct_one, HNC.out]; rfl, HE3.out⟩
end

section
set_option linter.unusedVariables false

open Go.RowKit

/-- The call hands back those bytes, in a block of its own. -/
def GivesBb (w : World) (m : Nat) (F : Nat → Int) (e : Ending) (w' : World) : Prop :=
  ∃ g, e = .returned (.slice (some ⟨g, 0, none⟩) m m) ∧ w.heap.size ≤ g ∧ Lies w' g (byts F m).toArray ∧ Ext w w'

theorem GivesBb.of {w w1 w' : World} {m : Nat} {F : Nat → Int} {xs : Array Value} (hE : Ext w w1) (hx : xs = (byts F m).toArray) (hw : Ext (w1.alloc (.cells xs 5)) w') : GivesBb w m F (.returned (.slice (some ⟨w1.heap.size, 0, none⟩) m m)) w' :=
  ⟨_, rfl, Below.size hE, hx ▸ (Lies.new w1 xs).ext hw, (hE.trans (Ext.alloc _ _)).trans hw⟩

theorem GivesBb.yes {w w' : World} {m : Nat} {F : Nat → Int} (hm : m ≤ maxLen) {v : Value} (h : GivesBb w m F (.returned v) w') : GivesBt w m F true (.returned (.tuple #[v, .bool true])) w' := by
  obtain ⟨g, e, hg, hl, hx⟩ := h
  cases e
  exact givesBs_of_owns (xs := byts F m) (by simpa using hl.owns (Nat.le_refl g) (by simp [byts_length]) hm) hg rfl hx

set_option maxHeartbeats 400000 in
theorem highBytes_any (x : Int) (w : World) (x0 : 0 ≤ x) (x1 : x ≤ 16777215) : Calls Tryz.prog 172 #[.int .i64 x] w fun r w' => r = .returned (.agg #[.int .u8 (x / 65536), .int .u8 (x / 256 % 256), .int .u8 (x % 256)]) ∧ Ext w w' := by
  go_enter Tryz.func172, Tryz.ntmps172
  go_wp2
  refine bodyPost_ret (v := .agg #[.int .u8 (x / 65536), .int .u8 (x / 256 % 256), .int .u8 (x % 256)]) (by simp [results, Tryz.results172, go_sem]) rfl ⟨rfl, ?_⟩
  exact Ext.alloc _ _
end

end Go.Proofs.YtnnandjphlajnaaGreatDoor
