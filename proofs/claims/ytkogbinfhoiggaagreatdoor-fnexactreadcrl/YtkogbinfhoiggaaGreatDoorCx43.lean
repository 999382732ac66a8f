/- Walks: ReadCrl of the program. Walks: ReadCrl of the program, whole. Walks: lists of ints put behind each other. Made out of BCat. Walks: what the model reads a list of what is void with. -/
import Derived.Test.YtkogbinfhoiggaaGreatDoorCx41
import Derived.Test.YtkogbinfhoiggaaGreatDoorCx42
namespace Go.Proofs.YtkogbinfhoiggaaGreatDoor
set_option linter.unusedVariables false
set_option linter.unusedSimpArgs false
section
open Go.RowKit
theorem wtL_rng {C : List Ic} (h : ∀ c ∈ C, InR c) : ∀ b ∈ wtL C, 0 ≤ b ∧ b < 256 := by
 refine (wdL_rng (xC C) C.length (fun i hi j hj => ?_)).2
 have e : C.getD i ⟨0, 0, []⟩ = C[i] := by rw [List.getD_eq_getElem?_getD, List.getElem?_eq_getElem hi]; rfl
 have hj' : j < (C.getD i ⟨0, 0, []⟩).bd.length := hj
 show 0 ≤ (C.getD i ⟨0, 0, []⟩).bd.getD j 0 ∧ (C.getD i ⟨0, 0, []⟩).bd.getD j 0 < 256
 rw [e] at hj' ⊢
 rw [List.getD_eq_getElem?_getD, List.getElem?_eq_getElem hj']
 exact h _ (List.getElem_mem hi) _ (List.getElem_mem hj')
theorem txC_rng (t : Int) (s : ByteArray) : InR (txC t s) := by
 intro b hb
 obtain ⟨i, -, rfl⟩ := List.mem_map.1 hb
 have := bt_lt s i
 omega
theorem intC_rng (z : Int) : InR (intC z) := by
 intro b hb
 obtain ⟨i, -, rfl⟩ := List.mem_map.1 (show b ∈ ibL z from hb)
 exact ib_range _ _
theorem nil_rng (t k : Int) : InR ⟨t, k, []⟩ := by intro b hb; simp at hb
theorem seC_rng {g : Int → Nat × Nat × Nat × Nat} {c : Cl} (h : ∀ i, i < c.ng → 0 ≤ c.fg i ∧ c.fg i < 256) : ∀ q ∈ seC (clC g c) c.ng c.fg, InR q := by
 intro q hq
 have ht : ∀ t, InR (tiC g t) := fun t => by unfold tiC; split <;> exact txC_rng _ _
 unfold seC clC nmC tmC nsC at hq
 simp only [List.mem_cons, List.mem_append, List.mem_map, List.not_mem_nil, or_false] at hq
 rcases hq with rfl | (rfl | rfl | (rfl | ⟨i, -, rfl⟩) | (rfl | rfl | rfl) | rfl | ⟨i, -, rfl⟩) | rfl
 ·exact nil_rng _ _
 ·exact nil_rng _ _
 ·exact intC_rng _
 ·exact nil_rng _ _
 ·exact txC_rng _ _
 ·exact nil_rng _ _
 ·exact ht _
 ·exact ht _
 ·exact nil_rng _ _
 ·exact intC_rng _
 ·intro b hb
  rcases List.mem_cons.1 hb with rfl | hb
  ·decide
  ·obtain ⟨i, hi, rfl⟩ := List.mem_map.1 hb
   exact h i (List.mem_range.1 hi)
theorem ansL_rng {ok : Bool} {C : List Ic} (h : ∀ c ∈ C, InR c) (i : Nat) : 0 ≤ (ansL ok C).getD i 0 ∧ (ansL ok C).getD i 0 < 256 := by
 rw [List.getD_eq_getElem?_getD]
 by_cases hi : i < (ansL ok C).length
 ·rw [List.getElem?_eq_getElem hi]
  have hs : ∀ b ∈ ansL ok C, b ∈ wtL C := by
   unfold ansL
   split
   ·exact fun _ h => h
   ·simp
  exact wtL_rng h _ (hs _ (List.getElem_mem hi))
 ·rw [List.getElem?_eq_none (by omega)]
  decide
theorem CrlV.sm {M : List It} {n : Nat} {c : Cl} (hl : ∀ i, i < M.length → (M.getD i dI).len ≤ 4000) (h : CrlV (fun i => M.getD i dI) n c) (h1 : c.ni ≤ 300) (h2 : c.nv ≤ 300) : ClSm c 4000 := by
 have hz : ∀ i, (M.getD i dI).len ≤ 4000 := fun i => by
  by_cases hi : i < M.length
  ·exact hl i hi
  ·rw [List.getD_eq_getElem?_getD, List.getElem?_eq_none (by omega)]
   exact Nat.zero_le _
 refine ⟨by omega, fun j hj => ?_, by omega, ?_⟩
 ·rw [h.fi j hj]
  unfold txS
  rw [strOfNums_size]
  have := hz (kpl (fun i => M.getD i dI) n (kpl (fun i => M.getD i dI) n 1 1) j)
  simpa [nums] using this
 ·have := hz (kpl (fun i => M.getD i dI) n 0 1)
  rw [h.ng]
  show (M.getD _ dI).len - 1 ≤ 4000
  omega
theorem same_iff {g : Int → Nat × Nat × Nat × Nat} {f : Nat → Int} {bn : Nat} {c : Cl} : (ansB (clB c) (seC (clC g c) c.ng c.fg) = true ∧ ((ansL (clB c) (seC (clC g c) c.ng c.fg)).length == bn && alike (fun i => (ansL (clB c) (seC (clC g c) c.ng c.fg)).getD i 0) f (ansL (clB c) (seC (clC g c) c.ng c.fg)).length) = true) ↔ CrlRd g f bn c := by
 unfold CrlRd ansB ansL
 cases hb : clB c
 ·simp
 ·simp only [if_true, true_and]
  generalize seC (clC g c) c.ng c.fg = C
  constructor
  ·rintro ⟨h1, h2⟩
   refine ⟨h1, ?_⟩
   rw [Bool.and_eq_true, beq_iff_eq] at h2
   obtain ⟨h3, h4⟩ := h2
   have h5 := (alike_iff _ _ _).1 h4
   refine List.ext_getElem (by rw [byF_len]; exact h3) (fun i hi hi' => ?_)
   have := h5 i hi
   rw [List.getD_eq_getElem?_getD, List.getElem?_eq_getElem hi] at this
   simp only [Option.getD_some] at this
   rw [this]
   simp [byF]
  ·rintro ⟨h1, h2⟩
   refine ⟨h1, ?_⟩
   rw [Bool.and_eq_true, beq_iff_eq]
   refine ⟨by rw [h2, byF_len], (alike_iff _ _ _).2 (fun i hi => ?_)⟩
   rw [List.getD_eq_getElem?_getD, List.getElem?_eq_getElem hi]
   simp only [Option.getD_some]
   have : (wtL C)[i] = (byF f 0 bn)[i]'(by rw [← h2]; exact hi) := by congr 1
   rw [this]
   simp [byF]
set_option maxHeartbeats 6400000 in
set_option maxRecDepth 100000 in
theorem readCrl1_any (g : Int → Nat × Nat × Nat × Nat) (hg : DayG g) (ba : Option Addr) (bb boff bn bc : Nat) (f : Nat → Int) (K : Nat) (w : World) (hk : w.cell? ⟨K, 0, none⟩ = some (.slice ba bn bc)) (hs : BSeg w ba bb boff bn f) (hb : ∀ i, i < bn → 0 ≤ f i ∧ f i < 256) (hbc : bn ≤ bc) (hbc2 : bc ≤ 9223372036854775807) (hn : bn ≤ 1048576) (hH : Hdl w) (hT : Tbl w) :
  Calls Tryz.prog 21 #[.pointer (some ⟨K, 0, none⟩)] w (OrP w (∃ d, CrlRd g f bn d) (fun u w' => ∃ c m, u = .agg (clL c m).toArray ∧ ClNw w.heap.size w' c m ∧ CrlRd g f bn c)) := by
 obtain ⟨V, hV⟩ : ∃ V, w.alloc (.cells #[.slice none 0 0, .int .i64 0, .int .i64 0, .int .i64 0, .slice none 0 0, .slice none 0 0] 26) = V := ⟨_, rfl⟩
 obtain ⟨B0, hE, hsz⟩ := box1 w zL 26 (w1 := V) (by rw [← hV]; exact Ext.refl _)
 have HBx := hide B0
 have HE := hide hE
 have HV := hide (show w.heap.size < V.heap.size from hsz)
 have hkV : V.cell? ⟨K, 0, none⟩ = some (.slice ba bn bc) := (Below.cell hE (p := ⟨K, 0, none⟩) (World.block_lt_of_cell? _ _ hk)).trans hk
 have Hk := hide hkV
 have HT := hide (hT.ext hE)
 have Hs := hide (hs.of_all hE)
 have Hb := hide hb
 have Hn := hide hn
 have HD := hide (implReadDer_any ba bb boff bn bc f V Hs.out hb hbc hbc2 (hH.of_ext hE))
 clear hs hb hbc hbc2 hH hT B0 hE hsz hk hn
 go_enter Tryz.func21, Tryz.ntmps21
 go_wp2_with fail
 refine HD.out.mono ?_
 rintro e w1 ⟨v, M, rfl, hL, ⟨hM, hC⟩, hE1⟩
 have HE1 := hide hE1
 have HL := hide hL
 have HM := hide hM
 have HCp := hide hC
 obtain ⟨cd, hcd⟩ : ∃ z, (rdA f bn).2.1 = z := ⟨_, rfl⟩
 obtain ⟨pl, hpl⟩ : ∃ z, (rdA f bn).2.2 = z := ⟨_, rfl⟩
 rw [hcd, hpl]
 have Hcd := hide hcd
 clear hL hM hC hE1 hcd hpl HD hkV
 by_cases h0 : cd = 0
 ·subst h0
  obtain ⟨⟨va, S, vc, rfl, hI⟩, ht, hX, hkid, hblk⟩ := rdx_of Hb.out Hcd.out HL.out HM.out HCp.out
  have HP := hide (pieceOf_any va S 0 M.length vc (fun i => M.getD i dI) w1 hI ht)
  have HX := hide hX
  have Hkid := hide hkid
  have Hblk := hide hblk
  have HLy : Hid (∀ d, CrlRd g f bn d → LayC (fun i => M.getD i dI) M.length d) := hide (fun d hd => (hd.lay hg Hb.out).2 M HM.out)
  have HTw := hide (HT.out.ext HE1.out)
  obtain ⟨n, hn⟩ : ∃ n, M.length = n := ⟨_, rfl⟩
  rw [hn] at HP HX Hkid HLy
  have Hnn := hide hn
  clear hI ht hX hkid hblk hn
  go_wp2_with fail
  refine (want_yes _).mono ?_
  rintro e w2 ⟨rfl, hw⟩
  obtain rfl := hw.symm
  rw [Hnn.out]
  go_wp2_with fail
  refine HP.out.mono ?_
  rintro e w3 ⟨pv, rfl, hp, hE3⟩
  have HE3 := hide hE3
  have HC := hide (readCrl_any (m := 9) hp (HX.out.ext hE3) (HTw.out.ext hE3) Hkid.out)
  clear hp hE3 HP
  go_wp2_with fail
  refine HC.out.mono ?_
  rintro e w4 ⟨hE4, ⟨u, rfl, c, m, rfl, hcv, ⟨hci, hca⟩, hcw, hcg, hgb, hg0, hb1, hb2, hb3, hn1, hn2⟩ | ⟨⟨ch, rfl⟩, hno⟩⟩
  ·have HE4 := hide hE4
   have hlx : ∀ i, i < M.length → (M.getD i dI).len ≤ 4000 := fun i hi => HX.out.len i (by rw [← Hnn.out]; exact hi)
   have hsm := hcv.sm hlx hn1 hn2
   have hin : kpl (fun i => M.getD i dI) n 0 1 < M.length := by
    by_cases h : kpl (fun i => M.getD i dI) n 0 1 < M.length
    ·exact h
    ·have h2 : 0 < (M.getD (kpl (fun i => M.getD i dI) n 0 1) dI).len := hg0
     rw [List.getD_eq_getElem?_getD, List.getElem?_eq_none (by omega)] at h2
     exact absurd h2 (Nat.lt_irrefl 0)
   have hrg : ∀ i, i < c.ng → 0 ≤ c.fg i ∧ c.fg i < 256 := fun i hi => by
    rw [hcv.fg]
    rw [hcv.ng] at hi
    exact HX.out.rng _ (Nat.lt_of_lt_of_eq hin Hnn.out) (i + 1) (by omega)
   have hnw : ClNw (w.heap.size + 1) w4 c m := by
    refine ⟨hci, hca, hcw, hcg, ?_, ?_, hb2, hb3⟩
    ·rw [hgb]
     exact Nat.le_trans HV.out (Hblk.out _ hin hg0)
    ·rw [hgb]
     have h1 := (HX.out.body _ (Nat.lt_of_lt_of_eq hin Hnn.out)).toBSeg.lt hg0
     have h2 := Below.size HE3.out
     exact Nat.lt_of_lt_of_le (Nat.lt_of_lt_of_le h1 h2) hb1
   have HQ : Hid ((∃ d, CrlRd g f bn d) → CrlRd g f bn c) := hide (fun ⟨d, hd⟩ => by
    have e := (hcv.same (HLy.out d hd) (ClOk.of hd.1)).eqs g
    unfold CrlRd
    rw [e.1, e.2]
    exact hd)
   have HNw := hide hnw
   have HSm := hide hsm
   have Hrs := hide (seC_rng (g := g) hrg)
   have HIff := hide (same_iff (g := g) (f := f) (bn := bn) (c := c))
   clear hE4 hcv hci hca hcw hcg hgb hg0 hb1 hb2 hb3 hn1 hn2 hlx hsm hin hrg hnw HC HX Hkid Hblk HLy
   have hlC : (clL c m).length = 6 := rfl
   have hone : ∀ v ∈ clL c m, v.oneCell' = true := by simp [clL, Value.oneCell']
   have HWr : Hid (∀ W, Ext w4 W → Calls Tryz.prog 28 #[.agg (clL c m).toArray] W fun e w' => GivesAn W (clB c) (seC (clC g c) c.ng c.fg) e w') := hide (fun W h => implWriteCrl_at g hg c m W (HNw.out.in'.ext h) ⟨by have := HSm.out.i; omega, fun j hj => by have := HSm.out.is j hj; omega, by have := HSm.out.v; omega, by have := HSm.out.g; omega⟩ ((HTw.out.ext (HE3.out.trans (HE4.out.trans h))).m) ((HTw.out.ext (HE3.out.trans (HE4.out.trans h))).p))
   have Hpost : Hid (∀ w', Kp (w.heap.size + 1) w4 w' → CrlRd g f bn c → ∃ c' m', Value.agg (clL c m).toArray = .agg (clL c' m').toArray ∧ ClNw w.heap.size w' c' m' ∧ CrlRd g f bn c') := hide (fun w' k h => ⟨c, m, rfl, (HNw.out.kp (Nat.le_refl _) k).low (Nat.le_succ _), h⟩)
   have Hansr := hide (fun i => ansL_rng (ok := clB c) Hrs.out i)
   obtain ⟨C, hC⟩ : ∃ C, clL c m = C := ⟨_, rfl⟩
   obtain ⟨aL, haL⟩ : ∃ a, ansL (clB c) (seC (clC g c) c.ng c.fg) = a := ⟨_, rfl⟩
   obtain ⟨ok, hok⟩ : ∃ a, ansB (clB c) (seC (clC g c) c.ng c.fg) = a := ⟨_, rfl⟩
   unfold GivesAn at HWr
   rw [hC, haL, hok] at HWr
   rw [hC] at Hpost hlC hone ⊢
   rw [haL] at Hansr
   rw [haL, hok] at HIff
   clear hC haL hok
   have hst := run_st (P := Tryz.prog) 26 C (w4.alloc (.cells #[.slice none 0 0, .int .i64 0, .int .i64 0, .int .i64 0, .slice none 0 0, .slice none 0 0] 26)) (by rw [hlC]; kernel_rfl) hone w4.heap.size 0 (Blk.st (Blk.alloc w4 [.slice none 0 0, .int .i64 0, .int .i64 0, .int .i64 0, .slice none 0 0, .slice none 0 0] 26) 0 _ (by rw [hlC]; decide))
   have hB5 := Blk.putAll1 (vs := C) (Blk.alloc w4 [.slice none 0 0, .int .i64 0, .int .i64 0, .int .i64 0, .slice none 0 0, .slice none 0 0] 26) (by rw [hlC]; rfl)
   have HEW : Ext w4 (putL w4.heap.size 0 C (w4.alloc (.cells #[.slice none 0 0, .int .i64 0, .int .i64 0, .int .i64 0, .slice none 0 0, .slice none 0 0] 26))) := below_putL (Nat.le_refl _) _ 0 _ (Ext.alloc _ _)
   obtain ⟨V5, hV5⟩ : ∃ V5, putL w4.heap.size 0 C (w4.alloc (.cells #[.slice none 0 0, .int .i64 0, .int .i64 0, .int .i64 0, .slice none 0 0, .slice none 0 0] 26)) = V5 := ⟨_, rfl⟩
   rw [hV5] at hst hB5 HEW
   have HB5 := hide hB5
   have Hlt5 := hide (Blk.lt hB5 (by rw [hlC]; decide))
   have Hl6 := hide hlC
   have Hone := hide hone
   have hEV : Ext V V5 := HE1.out.trans (HE3.out.trans (HE4.out.trans HEW))
   have HBx5 := hide (HBx.out.ext hEV HV.out)
   have hk5 := (Below.cell hEV (p := ⟨K, 0, none⟩) (World.block_lt_of_cell? _ _ Hk.out)).trans Hk.out
   have HEV := hide hEV
   have H45 := hide HEW
   have Hld : Hid (∀ (b : Nat) (W : World), Blk W b C → (loadVar 26 ⟨b, 0, none⟩).run Tryz.prog W = .ok (.agg C.toArray) W) := hide (fun b W hB => run_ld (P := Tryz.prog) 26 C W (by rw [Hl6.out]; kernel_rfl) (by kernel_rfl) b 0 (Blk.ld hB 0 _ (fun j v h => by rw [Nat.zero_add]; exact h)))
   have d0 := fun p : ReC (fun _ => False) V5 => cell_reC hk5 (fun h => h) p
   clear hlC hone hB5 HEW hV5 hEV hk5 HBx HNw HSm Hrs
   go_wp2_with (first | (refine wpList_st (by first | rfl | simp [Region.wanted, yielded]) 26 _ _ rfl _ rfl _ rfl _ hst ?_))
   clear hst
   refine anyK_begin (fun _ => False) 8 rfl (by kernel_rfl) ?_
   refine anyK_take 0 1 7 rfl (by decide) (by kernel_rfl) (fun _ _ d _ _ h => by cases d <;> exact h) ?_
   refine head_ld (by first | rfl | simp [Region.wanted, yielded]) rfl rfl (fun q => Hld.out _ _ (blk_reC HB5.out Hlt5.out q)) ?_
   refine headC_nil ?_
   refine anyK_take 5 1 6 rfl (by decide) (by kernel_rfl) (fun _ _ d _ _ h => by cases d <;> exact h) ?_
   repeat (refine headC_step (fun K hK => ?_); go_simp; refine hK _ ?_; clear hK K)
   refine headC_nil ?_
   clear d0
   refine anyK_one 1 (by kernel_rfl) ?_
   refine stepK_run rfl ?_
   intro w6 h6 K2 hK2
   go_simp
   refine (HWr.out w6 (H45.out.trans h6)).mono ?_
   rintro e w7 ⟨ga, gb, gc, rfl, hgb, hgo, hE7⟩
   have Hgo := hide hgo.toBSeg
   have HE7 := hide (h6.trans hE7)
   try go_simp
   refine hK2 _ _ (Grw.of_ext HE7.out) ?_
   clear hK2 K2 h6 hE7 hgb hgo HWr
   refine anyK_take 2 2 3 rfl (by decide) (by kernel_rfl) (fun _ _ d _ _ h => by cases d <;> exact h) ?_
   repeat (refine headC_step (fun K hK => ?_); go_simp; refine hK _ ?_; clear hK K)
   refine headC_nil ?_
   have HFin := hide (HE.out.trans HEV.out)
   cases ok
   ·refine anyK_one 4 (by kernel_rfl) ?_
    refine stepK_run rfl ?_
    intro w8 h8 K2 hK2
    go_simp
    refine (wantedB_no _ _ _ _).mono ?_
    rintro e w9 ⟨rfl, hw⟩
    obtain rfl := hw.symm
    try go_simp
    exact ⟨rfl, HFin.out.trans (HE7.out.trans h8), .inr ⟨⟨_, rfl⟩, fun h => by have := (HIff.out.2 (HQ.out h)).1; cases this⟩⟩
   ·refine anyK_one 4 (by kernel_rfl) ?_
    refine stepK_run rfl ?_
    intro w8 h8 K2 hK2
    go_simp
    refine (wantedB_yes _ _ _ _).mono ?_
    rintro e w9 ⟨rfl, hw⟩
    obtain rfl := hw.symm
    have HE9 := hide (HE7.out.trans h8)
    have H8 := hide h8
    try go_simp
    refine hK2 _ _ (Grw.of_ext HE9.out) ?_
    clear hK2 K2 h8 hw
    refine anyK_one 6 (by kernel_rfl) ?_
    refine stepK_run rfl ?_
    intro w10 h10 K2 hK2
    have hE10 := HE9.out.trans h10
    have HEq := hide (bytesEqual_any ga gb 0 aL.length gc (fun i => aL.getD i 0) ba bb boff bn bc f w10 (Hgo.out.of_all (H8.out.trans h10)) (Hs.out.of_all (HEV.out.trans hE10)) (fun i _ => Hansr.out i) Hb.out)
    have HE10 := hide hE10
    clear hE10 h10
    obtain ⟨eq, heq⟩ : ∃ q, (aL.length == bn && alike (fun i => aL.getD i 0) f aL.length) = q := ⟨_, rfl⟩
    rw [heq] at HEq HIff
    clear heq
    go_simp
    refine HEq.out.mono ?_
    rintro e w11 ⟨rfl, hw⟩
    obtain rfl := hw.symm
    try go_simp
    refine hK2 _ _ (Grw.of_ext HE10.out) ?_
    clear hK2 K2 hw HEq
    cases eq
    ·refine anyK_one 7 (by kernel_rfl) ?_
     refine stepK_run rfl ?_
     intro w12 h12 K2 hK2
     go_simp
     refine (want_no _).mono ?_
     rintro e w13 ⟨rfl, hw⟩
     obtain rfl := hw.symm
     try go_simp
     exact ⟨rfl, HFin.out.trans (HE10.out.trans h12), .inr ⟨⟨_, rfl⟩, fun h => by have := (HIff.out.2 (HQ.out h)).2; cases this⟩⟩
    ·have HY := hide (HIff.out.1 ⟨rfl, rfl⟩)
     clear HIff HQ
     refine anyK_one 7 (by kernel_rfl) ?_
     refine stepK_run rfl ?_
     intro w12 h12 K2 hK2
     go_simp
     refine (want_yes _).mono ?_
     rintro e w13 ⟨rfl, hw⟩
     obtain rfl := hw.symm
     have HE12 := hide (HE10.out.trans h12)
     try go_simp
     refine hK2 _ _ (Grw.of_ext HE12.out) ?_
     clear hK2 K2 hw h12
     refine anyK_done (by kernel_rfl) ?_ 0
     intro w14 h14
     have hE14 := HE12.out.trans h14
     have HE14 := hide hE14
     have hl5 := Hld.out _ _ (HB5.out.ext hE14 Hlt5.out)
     have hBr := HBx5.out.ext hE14 (Nat.lt_of_lt_of_le HV.out (Below.size HEV.out))
     have hst := run_st (P := Tryz.prog) 26 C w14 (by rw [Hl6.out]; kernel_rfl) Hone.out w.heap.size 0 (Blk.st hBr 0 _ (by rw [Hl6.out]; decide))
     have hBf := hBr.put C (by rw [Hl6.out]; rfl)
     have Hlr := hide (Hld.out w.heap.size _ hBf)
     have Hfin := hide ((HFin.out.trans hE14).putL (Nat.le_refl _) C)
     have HKp : Hid (Kp (w.heap.size + 1) w4 (putL w.heap.size 0 C w14)) := hide ((Kp.ext (H45.out.trans hE14)).trans (Kp.putL (Nat.lt_succ_self _) C 0 w14))
     obtain ⟨W, hW⟩ : ∃ W, putL w.heap.size 0 C w14 = W := ⟨_, rfl⟩
     rw [hW] at hst Hlr Hfin HKp
     clear hE14 h14 hBr hBf hW HB5 HBx5
     go_wp2_with (first | (refine wpList_ld (by first | rfl | simp [Region.wanted, yielded]) 26 _ rfl _ rfl _ hl5 ?_) | (refine wpList_st (by first | rfl | simp [Region.wanted, yielded]) 26 _ _ rfl _ rfl _ rfl _ hst ?_))
     refine bodyPost_ret (v := .agg C.toArray) (results_at Tryz.results21 rfl Hlr.out) rfl ⟨Hfin.out, .inl ⟨_, rfl, Hpost.out _ HKp.out HY.out⟩⟩
  ·have Hno := hide hno
   exact ⟨rfl, HE.out.trans (HE1.out.trans (HE3.out.trans hE4)), .inr ⟨⟨_, rfl⟩, fun ⟨d, hd⟩ => hno ⟨d, ClOk.of hd.1, HLy.out d hd⟩⟩⟩
 ·go_wp2_with fail
  rw [show (cd == 0) = false by simpa using h0]
  refine (want_no _).mono ?_
  rintro e w2 ⟨rfl, hw⟩
  obtain rfl := hw.symm
  exact ⟨rfl, HE.out.trans HE1.out, .inr ⟨⟨_, rfl⟩, fun ⟨d, hd⟩ => h0 (by rw [← Hcd.out, (hd.lay hg Hb.out).1])⟩⟩
set_option maxHeartbeats 6400000 in
set_option maxRecDepth 100000 in
theorem implReadCrl_any (g : Int → Nat × Nat × Nat × Nat) (hg : DayG g) (ba : Option Addr) (bb boff bn bc : Nat) (f : Nat → Int) (w : World) (hs : BSeg w ba bb boff bn f) (hb : ∀ i, i < bn → 0 ≤ f i ∧ f i < 256) (hbc : bn ≤ bc) (hbc2 : bc ≤ 9223372036854775807) (hn : bn ≤ 1048576) (hH : Hdl w) (hT : Tbl w) :
  Calls Tryz.prog 6 #[.slice ba bn bc] w (FmR w (∃ d, CrlRd g f bn d) (fun c m w' => ClNw w.heap.size w' c m ∧ CrlRd g f bn c)) := by
 obtain ⟨V, hV⟩ : ∃ V, (w.alloc (.cells #[.slice ba bn bc] 22)).alloc (.cells #[.slice none 0 0, .int .i64 0, .int .i64 0, .int .i64 0, .slice none 0 0, .slice none 0 0] 26) = V := ⟨_, rfl⟩
 obtain ⟨B0, B1, hE, hsz⟩ := box2 w [.slice ba bn bc] zL 22 26 (w1 := V) (by rw [← hV]; exact Ext.refl _)
 have HE := hide hE
 have HB1 := hide B1
 have HV := hide (show w.heap.size + 2 ≤ V.heap.size from hsz)
 have hk : V.cell? ⟨w.heap.size, 0, none⟩ = some (.slice ba bn bc) := (B0 0 _ rfl).1
 have HF := hide (formed_any 21 #[.pointer (some ⟨w.heap.size, 0, none⟩)] (fun args w => by kernel_rfl) (∃ d, CrlRd g f bn d) (fun c m w' => ClNw (V.heap.size + 1) w' c m ∧ CrlRd g f bn c) V (fun W hW hlt => by
  refine (readCrl1_any g hg ba bb boff bn bc f w.heap.size W ((Below.cell hW (p := ⟨w.heap.size, 0, none⟩) (World.block_lt_of_cell? _ _ hk)).trans hk) (hs.of_all (hE.trans hW)) hb hbc hbc2 hn (hH.of_ext (hE.trans hW)) (hT.ext (hE.trans hW))).mono ?_
  rintro e w' ⟨h1, ⟨v, rfl, c, m, rfl, h2, h3⟩ | h2⟩
  ·exact ⟨h1, .inl ⟨_, rfl, c, m, rfl, h2.low hlt, h3⟩⟩
  ·exact ⟨h1, .inr h2⟩) (fun c m a b k h => ⟨h.1.kp (Nat.le_refl _) k, h.2⟩))
 clear hs hb hbc hbc2 hn hH hT B0 B1 hE hsz hk
 go_enter Tryz.func6, Tryz.ntmps6
 go_wp2_with fail
 refine HF.out.mono ?_
 rintro e w1 ⟨hE1, ⟨c, m, rfl, hN, hR⟩ | ⟨rfl, hno⟩⟩
 ·have BZ := HB1.out.ext hE1 HV.out
  have hst := run_st (P := Tryz.prog) 26 (clL c m) w1 (by kernel_rfl) (by simp [clL, Value.oneCell']) (w.heap.size + 1) 0 (Blk.st BZ 0 _ (by simp [clL, zL]))
  have HBW := hide (BZ.put (clL c m) rfl)
  have HF2 := hide ((HE.out.trans hE1).putL (Nat.le_succ _) (clL c m))
  have HK := hide ((hN.kp (N := w.heap.size + 2) (by have := HV.out; omega) (Kp.putL (Nat.lt_succ_self _) (clL c m) 0 w1)).low (by have := HV.out; omega : w.heap.size ≤ V.heap.size + 1))
  have HR := hide hR
  obtain ⟨L, hL⟩ : ∃ L, clL c m = L := ⟨_, rfl⟩
  have HLL := hide hL
  rw [hL] at hst HBW HF2 HK ⊢
  obtain ⟨W, hW⟩ : ∃ W, putL (w.heap.size + 1) 0 L w1 = W := ⟨_, rfl⟩
  rw [hW] at hst HBW HF2 HK
  have Hld := hide (run_ld (P := Tryz.prog) 26 L W (by rw [← HLL.out]; kernel_rfl) (by kernel_rfl) (w.heap.size + 1) 0 (Blk.ld HBW.out 0 _ (fun j v h => by rw [Nat.zero_add]; exact h)))
  clear BZ hE1 hL hW HF HB1 hN hR
  go_wp2_with (first | (refine wpList_st (by first | rfl | simp [Region.wanted, yielded]) 26 _ _ rfl _ rfl _ rfl _ hst ?_))
  refine bodyPost_ret (v := .tuple #[.agg L.toArray, .bool true]) (results_atb Tryz.results6 rfl rfl Hld.out) rfl ⟨HF2.out, .inl ⟨c, m, by rw [HLL.out], HK.out, HR.out⟩⟩
 ·have BZ := HB1.out.ext hE1 HV.out
  have hst := run_st (P := Tryz.prog) 26 zL w1 (by kernel_rfl) (by simp [zL, Value.oneCell']) (w.heap.size + 1) 0 (Blk.st BZ 0 _ (by simp [zL]))
  have HBW := hide (BZ.put zL rfl)
  have HF2 := hide ((HE.out.trans hE1).putL (Nat.le_succ _) zL)
  have Hno := hide hno
  have Hlz := hide (show zL.length = 6 from rfl)
  obtain ⟨L, hL⟩ : ∃ L, zL = L := ⟨_, rfl⟩
  have HLL := hide hL
  rw [hL] at hst HBW HF2 Hlz ⊢
  obtain ⟨W, hW⟩ : ∃ W, putL (w.heap.size + 1) 0 L w1 = W := ⟨_, rfl⟩
  rw [hW] at hst HBW HF2
  have Hld := hide (run_ld (P := Tryz.prog) 26 L W (by rw [Hlz.out]; kernel_rfl) (by kernel_rfl) (w.heap.size + 1) 0 (Blk.ld HBW.out 0 _ (fun j v h => by rw [Nat.zero_add]; exact h)))
  clear BZ hE1 hL hW HF HB1 hno
  go_wp2_with (first | (refine wpList_st (by first | rfl | simp [Region.wanted, yielded]) 26 _ _ rfl _ rfl _ rfl _ hst ?_))
  refine bodyPost_ret (v := .tuple #[.agg L.toArray, .bool false]) (results_atb Tryz.results6 rfl rfl Hld.out) rfl ⟨HF2.out, .inr ⟨by rw [HLL.out], Hno.out⟩⟩
theorem intz_one (f : Nat → Int) (n : Nat) : ∀ u ∈ ints f n, u.oneCell' = true := by
 intro u hu
 obtain ⟨i, -, rfl⟩ := List.mem_map.1 hu
 rfl
theorem wp_append_is {o : Oper} {a0 : Act} {K : Act → World → Prop} {Q : Exit → Act → World → Prop} {w : World} (s x : Operand)
  (ho : o.op = .call { callee := .builtin .append, args := #[s, x], argTypes := #[24, 24] })
  (base : Nat) (v : Value) (n : Nat) (xs : List Value) (hs : a0.eval s = v) (hown : w.ownsRow base 3 1 v n xs)
  (a : Option Addr) (b off m c : Nat) (f : Nat → Int) (hx : a0.eval x = .slice a m c) (hB : Seg w a b off m f) (hlen : n + m ≤ 1099511627776) (hbase : base ≤ w.heap.size)
  (h : ∀ v' w', w'.ownsRow base 3 1 v' (n + m) (xs ++ ints f m) → Below base w w' → K (a0.put o.dst v') w') : o.wp Tryz.prog a0 w K Q := by
 obtain ⟨i0, hi, hz0, hz1, hz2⟩ := info_parts Tryz.info3
 have hml : n + m ≤ maxLen := by unfold maxLen; omega
 cases a with
 | none =>
  have hm : m = 0 := by
   cases m with
   | zero => rfl
   | succ m => have := hB.at' (Nat.succ_pos _); cases this
  subst hm
  have hr := run_append_nothing (P := Tryz.prog) base 24 o.type 3 i0 1 Tryz.underlying24 hi v n c xs hown
  unfold Oper.wp
  simp [execOp, ho, resolve, invoke, builtin, hs, hx, hr, Result.andThen]
  exact h v w (by rw [show ints f 0 = [] from rfl, List.append_nil]; exact hown) (Below.refl _ _)
 | some ad =>
  refine wp_append_own w s x 24 ho base 3 i0 (.int .i64 0) 1 8 Tryz.underlying24 hi hz0 hz1 hz2 rfl (by decide) v n xs hs hown ad m c (ints f m) hx (by rw [ints_length, Nat.mul_one]) ?_ (intz_one f m) hml (by omega) hbase ?_
  ·intro j u hj
   have hjm : j < m := by have := (List.getElem?_eq_some_iff.1 hj).1; rwa [ints_length] at this
   have := hB.at' (by omega)
   obtain rfl := Option.some.inj this
   rw [show (ints f m)[j]? = some (.int .i64 (f j)) by simp [ints, hjm]] at hj
   obtain rfl := Option.some.inj hj
   have e : Addr.add ⟨b, off, none⟩ j = ⟨b, off + j, none⟩ := by
    by_cases h0 : j = 0
    ·subst h0; simp [Addr.add]
    ·simp [Addr.add, h0]
   rw [e]
   exact hB.cell j hjm
  ·intro v' w' h1 h2 h3
   exact h v' w' h1 ((Below.refl base w).grown h2 hbase (fun k hk => (hown.lt k hk).1))
theorem iowns_ext' {w w' : World} {b : Nat} {v : Value} {n : Nat} {xs : List Value} (h : w.ownsRow b 3 1 v n xs) (he : Ext w w') : w'.ownsRow b 3 1 v n xs := by
 refine ⟨h.1, ?_⟩
 rcases h.2 with h | ⟨g, cap, cur, hv, hg, hr, hr'⟩
 ·exact .inl h
 ·refine .inr ⟨g, cap, cur, hv, hg, ?_, hr'⟩
  have hlt : g < w.heap.size := by
   have := (Array.getElem?_eq_some_iff.1 hr).1
   exact this
  rw [Below.block he g hlt]; exact hr
theorem iowns_seg {w : World} {base : Nat} {v : Value} {n : Nat} {f : Nat → Int} (h : w.ownsRow base 3 1 v n (ints f n)) : ∃ a g cap, v = .slice a n cap ∧ base ≤ g ∧ n ≤ cap ∧ cap ≤ 9223372036854775807 ∧ Own w a g 0 n f := by
 have h' := h
 rcases h.2 with ⟨rfl, rfl⟩ | ⟨g, cap, cur, rfl, hg, hb, hn, hm, hs, ht⟩
 ·exact ⟨none, base, 0, rfl, Nat.le_refl _, Nat.le_refl _, by omega, Own.nil _ _ _ _ _⟩
 ·obtain ⟨a, g', cap', hv', hg', hO⟩ := own_of_owns h'
  simp only [Value.slice.injEq] at hv'
  obtain ⟨rfl, -, rfl⟩ := hv'
  refine ⟨_, g', cap, rfl, hg', hn, by unfold maxLen at hm; omega, hO⟩
theorem kpF_atR {f : Nat → Int} (hf : ∀ i, -1 ≤ f i) : ∀ (K s : Nat), 0 ≤ kidsF f K (s : Int) → kpF f K s = (List.range K).map (fun i => (kidsF f i (s : Int)).toNat)
 | 0, s, _ => rfl
 | K + 1, s, h => by
  rw [kidsF_front f hf] at h
  have hq : 0 ≤ f s := by
   by_cases c : 0 ≤ f s
   ·exact c
   ·have := hf s
    rw [show f s = -1 by omega, kidsF_minus] at h
    omega
  obtain ⟨e, he⟩ := nat_of hq
  rw [he] at h
  rw [kpF, he, Int.toNat_natCast, kpF_atR hf K e h, List.range_succ_eq_map, List.map_cons, List.map_map]
  congr 1
  apply List.map_congr_left
  intro i _
  show (kidsF f i (e : Int)).toNat = (kidsF f (i + 1) (s : Int)).toNat
  rw [kidsF_front f hf, he]
def OkI (x : Nat → It) (n i : Nat) : Prop := 0 ≤ endF (fun j => (x j).kid) n 13 i
theorem OkI.lt {x : Nat → It} {n i : Nat} (h : OkI x n i) : i < n := endF_lt h
theorem OkI.kid {x : Nat → It} {n i : Nat} (h : OkI x n i) {j : Nat} (hj : j < (x i).kid.toNat) : OkI x n (kpl x n i j) := by
 have h1 := ((kpl_m (m := 12) (by omega) h).2 j hj).2.1
 unfold OkI
 rw [endF_mono _ n 12 _ (by rw [h1]; omega), h1]
 omega
theorem OkI.hF {x : Nat → It} {n i : Nat} (h : OkI x n i) : 0 ≤ kidsF (endF (fun j => (x j).kid) n 13) (x i).kid.toNat ((i + 1 : Nat) : Int) := by
 have hi := h.lt
 have h1 : 0 ≤ endF (fun j => (x j).kid) n 13 i := h
 rw [endF, if_neg (by omega)] at h1
 have h2 : 0 ≤ kidsF (endF (fun j => (x j).kid) n 12) (x i).kid.toNat ((i + 1 : Nat) : Int) := h1
 rw [kidsF_mono (fun q hq => endF_mono _ n 12 q hq) _ _ h2]
 exact h2
theorem OkI.list {x : Nat → It} {n i : Nat} (h : OkI x n i) : kpF (endF (fun j => (x j).kid) n 13) (x i).kid.toNat (i + 1) = (List.range (x i).kid.toNat).map (kpl x n i) :=
 kpF_atR (fun q => (endF_range _ n 13 q).1) _ _ h.hF
theorem OkI.root {x : Nat → It} {n : Nat} (ht : treeV x n = true) : OkI x n 0 := by
 unfold treeV at ht
 rw [decide_eq_true_eq] at ht
 unfold OkI
 rw [ht.2.2.2]
 omega
theorem iys_ints (L : List Int) : iys L = ints (fun i => L.getD i 0) L.length := by
 unfold iys ints
 refine List.ext_getElem (by simp) (fun i h1 h2 => ?_)
 simp at h1
 simp [h1]
set_option maxHeartbeats 1600000 in
theorem kidsAt_any (b off n cap : Nat) (x : Nat → It) (i : Nat) (w : World) (hs : ISeg w (some ⟨b, off, none⟩) b off n x) (hn : n ≤ 300) (hi : OkI x n i) (hkid : ∀ i, i < n → 0 ≤ (x i).kid ∧ (x i).kid ≤ 300) :
  Calls Tryz.prog 13 #[.slice (some ⟨b, off, none⟩) n cap, .int .i64 (i : Int)] w fun e w' => ∃ ad c, e = .returned (.slice ad (x i).kid.toNat c) ∧ w'.ownsRow w.heap.size 3 1 (.slice ad (x i).kid.toNat c) (x i).kid.toNat (ints (fun j => (kpl x n i j : Int)) (x i).kid.toNat) ∧ Ext w w' := by
 refine (l7Kids_any b off n cap x i w hs hn hi.lt hkid hi.hF).mono ?_
 rintro e w' ⟨v, rfl, hO, hE⟩
 rw [hi.list, iys_ints] at hO
 have hl : (((List.range (x i).kid.toNat).map (kpl x n i)).map Int.ofNat).length = (x i).kid.toNat := by simp
 rw [hl] at hO
 have hx : ints (fun j => (((List.range (x i).kid.toNat).map (kpl x n i)).map Int.ofNat).getD j 0) (x i).kid.toNat = ints (fun j => (kpl x n i j : Int)) (x i).kid.toNat := by
  unfold ints
  refine List.map_congr_left (fun j hj => ?_)
  rw [List.mem_range] at hj
  simp [hj]
 rw [hx] at hO
 have hO' := hO
 obtain ⟨a, g, c, rfl, -, -, -, -⟩ := iowns_seg hO
 exact ⟨a, c, rfl, hO', hE⟩
theorem row_nums {w : World} {B n c : Nat} {a : Option Addr} {F : Nat → Int} (h : w.ownsRow B 3 1 (.slice a n c) n (ints F n)) : ∃ g, (0 < n → a = some ⟨g, 0, none⟩) ∧ ∀ j, j < n → w.cell? ⟨g, j, none⟩ = some (.int .i64 (F j)) := by
 obtain ⟨a', g, c', he, -, -, -, hO⟩ := iowns_seg h
 simp only [Value.slice.injEq] at he
 obtain ⟨rfl, -, rfl⟩ := he
 exact ⟨g, hO.at', fun j hj => by have := hO.cell j hj; rwa [Nat.zero_add] at this⟩
theorem row_keepT {w w1 : World} {o : Obj} {B B' e e' s s' n n' : Nat} {v v' : Value} {xs xs' : List Value} (hI : w.ownsRow B e s v n xs) (hS : w.ownsRow B' e' s' v' n' xs') (he : e ≠ e') (hg : (w.alloc o).grownBy w1 v'.ownBlock) : w1.ownsRow B e s v n xs := by
 refine ownsRow_of_blk hI (fun g hgb => ?_)
 rcases hI.2 with ⟨rfl, -⟩ | ⟨g1, cap1, cur1, rfl, hb1, hh1, -⟩
 ·simp [Value.ownBlock] at hgb
 ·simp only [Value.ownBlock, Option.some.injEq] at hgb
  subst hgb
  have hlt := (Array.getElem?_eq_some_iff.1 hh1).1
  have hne : some g1 ≠ v'.ownBlock := fun h => by
   rcases hS.2 with ⟨rfl, -⟩ | ⟨g2, cap2, cur2, rfl, hb2, hh2, -⟩
   ·simp [Value.ownBlock] at h
   ·simp only [Value.ownBlock, Option.some.injEq] at h
    subst h
    rw [hh1] at hh2
    simp at hh2
    exact he hh2.2
  rw [hg.block g1 (by simp; omega) hne]
  show (w.heap.push o)[g1]? = _
  rw [Array.getElem?_push, if_neg (by omega)]
set_option maxHeartbeats 1600000 in
theorem specReadInt0 (a : Option Addr) (cap : Nat) (f : Nat → Int) (w : World) : Calls Tryz.prog 38 #[.slice a 0 cap] w fun e w' => e = .returned (.tuple #[.int .i64 (riV f 0), .bool (riB f 0)]) ∧ Ext w w' := by
 have hB : riB f 0 = false := rfl
 have hV : riV f 0 = 0 := rfl
 rw [hB, hV]
 go_enter Tryz.func38, Tryz.ntmps38
 go_wp2_with fail
 refine (l1In_int 0 1 8 w).mono ?_
 rintro e w1 ⟨rfl, rfl⟩
 rw [show (decide ((1 : Int) ≤ 0) && decide ((0 : Int) ≤ 8)) = false from rfl]
 go_wp2
 go_ret2
 exact ⟨rfl, Ext.refl _⟩
set_option maxHeartbeats 1600000 in
set_option maxRecDepth 100000 in
theorem l10NumZ_any (t : It) (w : World) (hs : BSeg w t.ad t.blk t.off t.len t.f) (hb : ∀ i, i < t.len → 0 ≤ t.f i ∧ t.f i < 256) (hc : 0 < t.len → Cp t) :
  Calls Tryz.prog 14 #[.agg #[.int .i64 t.tag, .slice t.ad t.len t.cap, .int .i64 t.kid]] w fun e w' => e = .returned (.int .i64 (riV t.f t.len)) ∧ Ext w w' := by
 have HR : Hid (∀ W, Ext w W → Calls Tryz.prog 38 #[.slice t.ad t.len t.cap] W fun e w' => e = .returned (.tuple #[.int .i64 (riV t.f t.len), .bool (riB t.f t.len)]) ∧ Ext W w') := hide (fun W h => by
  by_cases h0 : 0 < t.len
  ·exact specReadIntBytes_any t.ad t.blk t.off t.len t.cap t.f W (hc h0).1 (hc h0).2 (hs.of_all h) hb
  ·rw [show t.len = 0 by omega]
   exact specReadInt0 _ _ _ W)
 obtain ⟨V, hV⟩ : ∃ V, w.alloc (.cells #[.int .i64 t.tag, .slice t.ad t.len t.cap, .int .i64 t.kid] 40) = V := ⟨_, rfl⟩
 obtain ⟨B0, hE, -⟩ := box1 w [.int .i64 t.tag, .slice t.ad t.len t.cap, .int .i64 t.kid] 40 (w1 := V) (by rw [← hV]; exact Ext.refl _)
 have c1 := (B0 1 _ rfl).1
 have HC := hide (HR.out V hE)
 have HE := hide hE
 obtain ⟨z, hz⟩ : ∃ z, riV t.f t.len = z := ⟨_, rfl⟩
 rw [hz] at HC ⊢
 generalize riB t.f t.len = ok at *
 clear hs hb hc B0 hE HR hz
 go_enter Tryz.func14, Tryz.ntmps14
 go_wp2_with fail
 refine HC.out.mono ?_
 rintro e w1 ⟨rfl, hE1⟩
 have HE1 := hide (HE.out.trans hE1)
 clear hE1 HC
 go_wp2
 go_ret
 exact ⟨rfl, HE1.out⟩
def txL (x : Nat → It) (n i j : Nat) : List ByteArray := (List.range j).map (fun q => txS (x (kpl x n i q)))
theorem txL_len (x : Nat → It) (n i j : Nat) : (txL x n i j).length = j := by simp [txL]
theorem txL_succ (x : Nat → It) (n i j : Nat) : txL x n i (j + 1) = txL x n i j ++ [txS (x (kpl x n i j))] := by simp [txL, List.range_succ]
set_option maxHeartbeats 3200000 in
set_option maxRecDepth 100000 in
theorem l10ReadTexts_any (b off n cap : Nat) (x : Nat → It) (i : Nat) (w : World) (hs : ISeg w (some ⟨b, off, none⟩) b off n x) (hn : n ≤ 300) (hi : OkI x n i) (hkid : ∀ i, i < n → 0 ≤ (x i).kid ∧ (x i).kid ≤ 300) :
  Calls Tryz.prog 15 #[.slice (some ⟨b, off, none⟩) n cap, .int .i64 (i : Int)] w fun e w' => ∃ v, e = .returned v ∧ w'.ownsRow w.heap.size 9 1 v (txL x n i (x i).kid.toNat).length (strs (txL x n i (x i).kid.toNat)) ∧ Ext w w' := by
 obtain ⟨i0, hi0, hz0, hz1, hz2⟩ := info_parts Tryz.infoS
 have HO := hide (World.ownsRow_made (base := w.heap.size) (e := 9) (size := 1) w #[] 0 (Nat.le_refl _) (by simp) rfl)
 have HK := hide (fun W (h : Ext w W) => kidsAt_any b off n cap x i W (hs.of_all h) hn hi hkid)
 have HKi := hide (fun j (hj : j < (x i).kid.toNat) => (hi.kid hj).lt)
 have Hs := hide hs
 have hK : (x i).kid.toNat ≤ 300 := by have := (hkid i hi.lt).2; omega
 obtain ⟨K, hKe⟩ : ∃ K, (x i).kid.toNat = K := ⟨_, rfl⟩
 rw [hKe] at HK HKi hK ⊢
 obtain ⟨V, hV⟩ : ∃ V, w.alloc (.cells #[] 9) = V := ⟨_, rfl⟩
 have hE : Ext w V := by rw [← hV]; exact Ext.alloc _ _
 have HC := hide (HK.out V hE)
 rw [hV] at HO
 have HE := hide hE
 clear hs hi hkid hKe HK hE
 go_enter Tryz.func15, Tryz.ntmps15
 go_wp2_with fail
 refine HC.out.mono ?_
 rintro e w1 ⟨ka, kc, rfl, hko, hE1⟩
 have Hko := hide hko
 have HE1 := hide (HE.out.trans hE1)
 have HO1 := hide (ownsRow_ext HO.out hE1)
 clear hko hE1 HC HO hV
 go_wp2_with fail
 go_loopw [5, 7] (fun v k wr => ∃ j : Nat, j ≤ K ∧ k = .int .i64 (j : Int) ∧ wr.ownsRow w.heap.size 9 1 v (txL x n i j).length (strs (txL x n i j)) ∧ wr.ownsRow V.heap.size 3 1 (.slice ka K kc) K (ints (fun j => (kpl x n i j : Int)) K) ∧ Ext w wr) (fun _ k _ => K - (intOf k).toNat)
 case atStart => exact ⟨0, Nat.zero_le _, rfl, HO1.out, Hko.out, HE1.out⟩
 case round =>
  clear HO1
  obtain ⟨j, hj, rfl, hO, hko, hE⟩ := hrel
  have HO := hide hO
  have HEr := hide hE
  have HKo := hide hko
  clear Hko
  by_cases hlt : j < K
  ·have hjk : (j : Int) < (K : Int) := by omega
   obtain ⟨kg, hka, hkc⟩ := row_nums hko
   have hka := hka (by omega)
   subst hka
   replace hkc := hkc j hlt
   obtain ⟨p, hp⟩ : ∃ p, kpl x n i j = p := ⟨_, rfl⟩
   have hpn := HKi.out j hlt
   rw [hp] at hpn hkc
   have hpi : (p : Int) < (n : Int) := by omega
   have hS := Hs.out.of_all hE
   have c1 := hS.c1 p hpn
   have hcv := conv_seg (cap := (x p).cap) (hS.body p hpn)
   have HX : Hid (txL x n i (j + 1) = txL x n i j ++ [strOfNums (nums (x p).f (x p).len)]) := hide (by rw [txL_succ, hp]; rfl)
   have hll := txL_len x n i j
   obtain ⟨acc, hacc⟩ : ∃ acc, txL x n i j = acc := ⟨_, rfl⟩
   rw [hacc] at HO HX hll
   generalize strOfNums (nums (x p).f (x p).len) = s at *
   clear hO hE hS hp hacc hko
   go_wp2_with (at_builtin; refine wpList_append_own _ rfl _ _ 23 rfl w.heap.size 9 i0 (.string ⟨#[]⟩) 1 16 Tryz.underlying23 hi0 hz0 hz1 hz2 rfl (by decide) _ _ _ rfl (HO.out.alloc _) ⟨wr.heap.size, 0, none⟩ 1 1 [.string s] rfl rfl (cell_one_new _ _ _) (strs_one _) (by unfold maxLen; omega) (by omega) (by have := Below.size HEr.out; simp; omega) ?_; intro v' w4 hown' hgrow hnil)
   have HN := hide (strs_step HO.out HEr.out hown' hgrow)
   have HKn := hide (row_keepT HKo.out HO.out (by decide) hgrow)
   clear hown' hgrow hnil HO HEr HKo hcv hkc c1
   go_wp2
   go_roundw
   case rel => exact ⟨j + 1, by omega, by go_num, by rw [HX.out]; exact HN.out.1, HKn.out, HN.out.2⟩
   case measure => simp [intOf]; omega
  ·obtain rfl : j = K := by omega
   clear hO hE hko HKo
   go_wp2
   go_ret
   exact ⟨_, rfl, HO.out, HEr.out⟩
end
end Go.Proofs.YtkogbinfhoiggaaGreatDoor
