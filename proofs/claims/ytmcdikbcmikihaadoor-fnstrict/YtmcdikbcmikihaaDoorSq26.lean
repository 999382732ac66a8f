/- Walks: the model draws bytes for ReadDer (DrawReadDer); written by mkdte.py. -/
import Derived.Test.YtmcdikbcmikihaaDoorSq11
import Derived.Test.YtmcdikbcmikihaaDoorSq20
import Derived.Test.YtmcdikbcmikihaaDoorSq21
import Derived.Test.YtmcdikbcmikihaaDoorSq25
namespace Go.Proofs.YtmcdikbcmikihaaDoor

section
set_option linter.unusedVariables false
set_option linter.unusedSimpArgs false

open Go.RowKit

/-- Bytes that are made behind the cursor. -/
structure Db (C : Nat) (a : Option Addr) (n cap : Nat) (w W : World) (v : Value) (m : Nat) (F : Nat → Int) : Prop where
  own : W.ownsRow (C + 1) 5 1 v m (byts F m)
  rng : ∀ i, i < m → 0 ≤ F i ∧ F i < 256
  len : m ≤ 4010
  cur : Cur W C a n cap
  low : Below C w W
  big : C ≤ w.heap.size

section

variable {C : Nat} {a : Option Addr} {n cap : Nat} {w W W' : World} {v v' : Value} {m k : Nat} {F G : Nat → Int}

theorem Db.touch (h : Db C a n cap w W v m F) (t : Touch C W W') (c : Cur W' C a n cap) : Db C a n cap w W' v m F :=
  ⟨owns_gb h.own (gb_touch t) (Nat.lt_succ_self C), h.rng, h.len, c, bl_gb h.low (gb_touch t) h.big, h.big⟩

theorem Db.next (h : Db C a n cap w W v m F) (hO : W'.ownsRow (C + 1) 5 1 v' k (byts G k)) (hE : Below (C + 1) W W') (hr : ∀ i, i < k → 0 ≤ G i ∧ G i < 256) (hk : k ≤ 4010) : Db C a n cap w W' v' k G :=
  ⟨hO, hr, hk, h.cur.of_block (hE.block C (Nat.lt_succ_self C)), Below.trans h.low (hE.mono (Nat.le_succ C)), h.big⟩

theorem Db.lt (h : Db C a n cap w W v m F) : C < W.heap.size := cur_lt h.cur

theorem Db.code {b off : Nat} {f : Nat → Int} (h : Db C a n cap w W v m F) (hK : Hid (∀ W, Below C w W → Code W C a b off n f)) : Code W C a b off n f := hK.out _ h.low

theorem Db.gives (h : Db C a n cap w W v m F) (hC : C = w.heap.size) : GivesDb w (.returned v) W := by
  obtain ⟨xa, xg, xc, rfl, -, h1, h2, hB⟩ := owns_seg h.own
  exact ⟨xa, xg, 0, m, xc, F, rfl, hB.toBSeg, h.rng, h1, h2, by have := h.low; rw [hC] at this; exact this⟩

end

theorem owns_cutB {w : World} {B g cap m k : Nat} {F : Nat → Int} (h : w.ownsRow B 5 1 (.slice (some ⟨g, 0, none⟩) m cap) m (byts F m)) (hk : k ≤ m) : w.ownsRow B 5 1 (.slice (some ⟨g, 0, none⟩) k cap) k (byts F k) := by
  rcases h.2 with ⟨h0, _⟩ | ⟨g', cap', cur, hv, hb, hg, h1, h2, h3, h4⟩
  · simp at h0
  · simp only [Value.slice.injEq, Option.some.injEq, Addr.mk.injEq] at hv
    obtain ⟨⟨rfl, -⟩, -, rfl⟩ := hv
    refine ⟨by rw [byts_length, Nat.mul_one], .inr ⟨g, cap, cur, rfl, hb, hg, by omega, h2, h3, ?_⟩⟩
    have h5 : (byts F m).take k = byts F k := by
      unfold byts
      rw [← List.map_take, List.take_range, Nat.min_eq_left hk]
    rw [← h5, ← h4, List.take_take, Nat.mul_one, Nat.mul_one, Nat.min_eq_left hk]

theorem catF_rng {F G : Nat → Int} {m k : Nat} (hF : ∀ i, i < m → 0 ≤ F i ∧ F i < 256) (hG : ∀ i, i < k → 0 ≤ G i ∧ G i < 256) : ∀ i, i < m + k → 0 ≤ catF F m G i ∧ catF F m G i < 256 := fun i hi => by
  unfold catF
  split
  · exact hF i (by assumption)
  · exact hG (i - m) (by omega)

theorem setF_rng {F : Nat → Int} {m i : Nat} {z : Int} (hF : ∀ i, i < m → 0 ≤ F i ∧ F i < 256) (h0 : 0 ≤ z) (h1 : z ≤ 255) : ∀ k, k < m → 0 ≤ (fun k => if k = i then z else F k) k ∧ (fun k => if k = i then z else F k) k < 256 := fun k hk => by
  show 0 ≤ (if k = i then z else F k) ∧ (if k = i then z else F k) < 256
  split
  · omega
  · exact hF k hk

/-- Bytes that are built. -/
def litF (l : List Int) (i : Nat) : Int := l.getD i 0

theorem lit_own (w : World) (B : Nat) (l : List Int) (hl : l.length ≤ 100) (hB : B ≤ w.heap.size) : (w.alloc (.cells (l.map (Value.int .u8)).toArray 5)).ownsRow B 5 1 (.slice (some ⟨w.heap.size, 0, none⟩) l.length l.length) l.length (byts (litF l) l.length) := by
  have := World.ownsRow_lit (e := 5) (size := 1) (base := B) w (l.map (Value.int .u8)).toArray l.length hB (by unfold maxLen; omega) (by simp)
  have e : (l.map (Value.int .u8)).toArray.toList = byts (litF l) l.length := by
    unfold byts litF
    refine List.ext_getElem (by simp) (fun i h1 h2 => ?_)
    simp at h1
    simp [h1]
  rwa [e] at this

theorem lit_seg (w : World) (l : List Int) : BSeg (w.alloc (.cells (l.map (Value.int .u8)).toArray 5)) (some ⟨w.heap.size, 0, none⟩) w.heap.size 0 l.length (litF l) := ⟨fun _ => rfl, fun i hi => by
  have := Blk.alloc w (l.map (Value.int .u8)) 5
  have h2 := (this i (.int .u8 (litF l i)) (by unfold litF; simp [hi])).1
  rw [Nat.zero_add]
  exact h2⟩

set_option maxHeartbeats 12800000 in
set_option maxRecDepth 100000 in
theorem drawReadDer_any (a : Option Addr) (b off n cap : Nat) (f : Nat → Int) (w : World) (hs : BSeg w a b off n f) (hB : ∀ i, i < n → 0 ≤ f i ∧ f i ≤ 255) (hn : n ≤ 1048576) :
    Calls Tryd.prog 21 #[.slice a n cap] w (GivesDb w) := by
  obtain ⟨C, hC⟩ : ∃ C, w.heap.size = C := ⟨_, rfl⟩
  have HKK : Hid (∀ W, Below C w W → Code W C a b off n f) := hide (fun W h => ⟨⟨hs.at', fun i hi => (World.cell?_of_block (a := ⟨b, off + i, none⟩) (h.block b (by have := hs.lt (by omega); omega))).trans (hs.cell i hi)⟩, hB, fun h0 => by have := hs.lt h0; omega⟩)
  have Hb : Hid (0 < n → b < C) := hide (fun h0 => by have := hs.lt h0; omega)
  have HN := hide (l1New_any a b off n cap f w hs hB hn)
  rw [hC] at HN
  have HCw := hide hC
  clear hs hB hC
  go_enter Tryd.func21, Tryd.ntmps21
  go_wp2_with fail
  refine HN.out.mono ?_
  rintro e w1 ⟨rfl, hC1, hlt1, B1⟩
  have HC1 := hide hC1
  have HB1 := hide B1
  clear hC1 hlt1 B1 HN
  go_wp2_with fail
  refine (l7DrawAny_any C a b off n cap f hn _ HC1.out (HKK.out _ HB1.out) Hb.out).mono ?_
  rintro e w2 ⟨v, L, rfl, hA, hl, hD, hC2, hB2⟩
  obtain ⟨va, S, vcap, rfl, hI⟩ := hA.iow (fun t ht => by have := (hD t ht).len; omega)
  obtain ⟨x, hx⟩ : ∃ x, x = fun i => L.getD i dI := ⟨_, rfl⟩
  have hmem : ∀ i, i < L.length → x i ∈ L := fun i hi => by
    rw [hx]
    show L.getD i dI ∈ L
    rw [List.getD_eq_getElem?_getD, List.getElem?_eq_getElem hi]
    exact List.getElem_mem hi
  have hlen : ∀ i, i < L.length → (x i).len ≤ 1048576 := fun i hi => by have := (hD _ (hmem i hi)).len; omega
  obtain ⟨hl4, hr4⟩ := wdL_rng x L.length (fun i hi => (hD _ (hmem i hi)).rng)
  rw [← hx] at hI
  have HW := hide (specWriteDer_any va S 0 L.length vcap x w2 hI.toISeg (by omega) hlen)
  have HB2 := hide (Below.trans HB1.out hB2)
  have HC2 := hide hC2
  have Hl4 := hide hl4
  have Hr4 := hide hr4
  clear hA hl hD hC2 hB2 hI hx hmem hlen hl4 hr4 HC1 HB1
  generalize L.length = N at *
  generalize wdL x N = B at *
  generalize wdB x N = okB at *
  go_wp2_with fail
  refine HW.out.mono ?_
  rintro e w3 ⟨v, rfl, hO, hE3⟩
  have hl2 := cur_lt HC2.out
  rw [bl_byG] at hO
  have HD : Hid (Db C a n cap w w3 v B.length (byG B)) := hide ⟨owns_mono hO hl2, byG_rng Hr4.out, by have := Hl4.out; omega, HC2.out.of_block (hE3.block C hl2), Below.trans HB2.out (hE3.mono (Nat.le_of_lt hl2)), by have := HCw.out; omega⟩
  have Hm : Hid (B.length ≤ 4000) := Hl4
  clear hO hE3 hl2 Hl4 Hr4 HW HC2 HB2
  generalize byG B = F at *
  generalize B.length = m at *
  obtain ⟨a0, c0, rfl⟩ := ownsRow_slc HD.out.own
  by_cases hm0 : m = 0
  · subst hm0
    go_wp2_with fail
    refine (l1Below_any C a b off n cap f 60 _ HD.out.cur (HD.out.code HKK) hn (by omega) (by omega)).mono ?_
    rintro e y1 ⟨q, rfl, q0, q1, hCy, Ty⟩
    have HDy := hide (HD.out.touch Ty hCy)
    clear hCy Ty HD
    by_cases k0 : q = 0
    · subst k0
      clear q0 q1
      go_wp2_with fail
      refine (l1Below_any C a b off n cap f 2 _ HDy.out.cur (HDy.out.code HKK) hn (by omega) (by omega)).mono ?_
      rintro e y2 ⟨x, rfl, x0, x1, hCy, Ty⟩
      have HDz := hide (HDy.out.touch Ty hCy)
      obtain ⟨r, hr⟩ : ∃ r : Nat, 4000 + x = (r : Int) := ⟨(4000 + x).toNat, by omega⟩
      have wr : wrap64 (4000 + x) = (r : Int) := by rw [← hr]; unfold wrap64; omega
      have wr' : IntKind.i64.wrap (4000 + x) = (r : Int) := by rw [IntKind.wrap_i64]; omega
      have r1 : r ≤ 4001 := by omega
      have r2 : (0 : Int) ≤ (r : Int) := by omega
      have hmk := run_make_row' (P := Tryd.prog) 22 5 (.int .u8 0) 1 Tryd.underlying22 Tryd.info5 rfl .i64 .i64 r (by omega) (by omega)
      have E5 := Ext.alloc y2 (.cells (madeCells #[.int .u8 0] r) 5)
      have HR := hide ((HDz.out.next (owns_noughts (C + 1) r y2 HDz.out.lt (by omega)) (E5.mono HDz.out.lt) (fun i _ => by show (0 : Int) ≤ 0 ∧ (0 : Int) < 256; decide) (by omega)).gives HCw.out.symm)
      clear hCy Ty HDy HDz hr x0 x1 E5
      have r3 : (r : Int) ≤ 4001 := by omega
      go_wp2
      go_ret
      exact HR.out
    by_cases k1 : q = 1
    · subst k1
      clear q0 q1
      have HD4 := hide (HDy.out.next (lit_own y1 (C + 1) [48, 130, 2, 88] (by decide) HDy.out.lt) ((Ext.alloc y1 _).mono HDy.out.lt) (by decide) (by decide))
      clear HDy
      go_wp2
      go_loopw [4, 6] (fun v i wr => ∃ (k p : Nat) (G : Nat → Int), i = .int .i64 (k : Int) ∧ k ≤ 300 ∧ p = 4 + 2 * k ∧ Db C a n cap w wr v p G) (fun _ i _ => 300 - (intOf i).toNat)
      case atStart => exact ⟨0, _, _, rfl, by omega, rfl, HD4.out⟩
      case round =>
        clear HD4
        obtain ⟨k, p, G, rfl, hk, hp, hD⟩ := hrel
        have HDl := hide hD
        have Hp := hide hp
        have Hk := hide hk
        obtain ⟨ea, ec, rfl⟩ := ownsRow_slc hD.own
        clear hD hp
        by_cases hkn : k < 300
        · have hki : (k : Int) < 300 := by omega
          have HS := hide (lit_seg wr [5, 0])
          have E5 := Ext.alloc wr (.cells (([5, 0] : List Int).map (Value.int .u8)).toArray 5)
          have HO5 := hide (owns_ext' HDl.out.own E5)
          have HE5 := hide (E5.mono HDl.out.lt)
          clear E5 hk
          go_wp2_with (at_builtin; refine stop_app rfl ?_)
          refine hide ?_
          refine wpList_append_bs rfl _ _ rfl (C + 1) _ p (byts G p) rfl HO5.out _ wr.heap.size 0 2 2 (litF [5, 0]) rfl HS.out (by have := Hp.out; have := Hk.out; omega) (Nat.le_trans HDl.out.lt (by simp)) ?_
          intro v6 w6 hO6 hE6
          rw [byts_append] at hO6
          have HD6 := hide (HDl.out.next hO6 (Below.trans HE5.out hE6) (catF_rng HDl.out.rng (by decide)) (by have := Hp.out; have := Hk.out; omega))
          clear hO6 hE6 HDl HS HO5 HE5
          go_wp2
          go_roundw
          case rel => exact ⟨k + 1, p + 2, _, by rfl, hkn, by have := Hp.out; omega, HD6.out⟩
          case measure => simp only [intOf]; omega
        · have hki : ¬ (k : Int) < 300 := by omega
          have HR := hide (HDl.out.gives HCw.out.symm)
          clear HDl hk
          go_wp2
          go_ret
          exact HR.out
    have HR := hide (HDy.out.gives HCw.out.symm)
    clear HDy
    go_wp2
    go_ret
    exact HR.out
  have hm1 : (0 : Int) < (m : Int) := by omega
  go_wp2_with fail
  refine (l1Below_any C a b off n cap f 8 _ HD.out.cur (HD.out.code HKK) hn (by omega) (by omega)).mono ?_
  rintro e w4 ⟨z, rfl, z0, z1, hC4, T4⟩
  have HD4 := hide (HD.out.touch T4 hC4)
  clear hC4 T4 HD
  by_cases j0 : z = 0
  · subst j0
    clear z0 z1
    go_wp2_with fail
    refine (l1Below_any C a b off n cap f (m : Int) _ HD4.out.cur (HD4.out.code HKK) hn (by omega) (by have := Hm.out; omega)).mono ?_
    rintro e w5 ⟨i, rfl, i0, i1, hC5, T5⟩
    obtain ⟨i, rfl⟩ := Int.eq_ofNat_of_zero_le i0
    have HD5 := hide (HD4.out.touch T5 hC5)
    clear hC5 T5 HD4 i0
    go_wp2_with fail
    refine (l1Byte_any C a b off n cap f _ HD5.out.cur (HD5.out.code HKK) hn).mono ?_
    rintro e w6 ⟨u, rfl, u0, u1, hC6, T6⟩
    have hD6 := HD5.out.touch T6 hC6
    have uu : u % 256 = u := by omega
    have him : i < m := by omega
    have hii : (i : Int) < (m : Int) := by omega
    obtain ⟨g, c6, hv, hg, hgl⟩ := slc_at hD6.own (by omega)
    simp only [Value.slice.injEq, true_and] at hv
    obtain ⟨rfl, rfl⟩ := hv
    have ec := owns_cell hD6.own i him
    have ef := owns_free hD6.own i
    have HDz : Hid (Db C a n cap w (w6.setCell ⟨g, i, none⟩ (.int .u8 u)) (.slice (some ⟨g, 0, none⟩) m c0) m (fun k => if k = i then u else F k)) := hide ⟨owns_set hD6.own i u, setF_rng hD6.rng u0 u1, hD6.len, hD6.cur.of_block (Below.heap_setCell _ _ _ _ (by show C ≠ g; omega)), (set_keeps (.int .u8 u) hD6.cur hD6.low hg).2, hD6.big⟩
    clear hD6 hC6 T6 HD5 hg hgl
    go_wp2_with fail
    refine (l1Below_any C a b off n cap f 60 _ HDz.out.cur (HDz.out.code HKK) hn (by omega) (by omega)).mono ?_
    rintro e y1 ⟨q, rfl, q0, q1, hCy, Ty⟩
    have HDy := hide (HDz.out.touch Ty hCy)
    clear hCy Ty HDz
    by_cases k0 : q = 0
    · subst k0
      clear q0 q1
      go_wp2_with fail
      refine (l1Below_any C a b off n cap f 2 _ HDy.out.cur (HDy.out.code HKK) hn (by omega) (by omega)).mono ?_
      rintro e y2 ⟨x, rfl, x0, x1, hCy, Ty⟩
      have HDz := hide (HDy.out.touch Ty hCy)
      obtain ⟨r, hr⟩ : ∃ r : Nat, 4000 + x = (r : Int) := ⟨(4000 + x).toNat, by omega⟩
      have wr : wrap64 (4000 + x) = (r : Int) := by rw [← hr]; unfold wrap64; omega
      have wr' : IntKind.i64.wrap (4000 + x) = (r : Int) := by rw [IntKind.wrap_i64]; omega
      have r1 : r ≤ 4001 := by omega
      have r2 : (0 : Int) ≤ (r : Int) := by omega
      have hmk := run_make_row' (P := Tryd.prog) 22 5 (.int .u8 0) 1 Tryd.underlying22 Tryd.info5 rfl .i64 .i64 r (by omega) (by omega)
      have E5 := Ext.alloc y2 (.cells (madeCells #[.int .u8 0] r) 5)
      have HR := hide ((HDz.out.next (owns_noughts (C + 1) r y2 HDz.out.lt (by omega)) (E5.mono HDz.out.lt) (fun i _ => by show (0 : Int) ≤ 0 ∧ (0 : Int) < 256; decide) (by omega)).gives HCw.out.symm)
      clear hCy Ty HDy HDz hr x0 x1 E5
      have r3 : (r : Int) ≤ 4001 := by omega
      go_wp2
      go_ret
      exact HR.out
    by_cases k1 : q = 1
    · subst k1
      clear q0 q1
      have HD4 := hide (HDy.out.next (lit_own y1 (C + 1) [48, 130, 2, 88] (by decide) HDy.out.lt) ((Ext.alloc y1 _).mono HDy.out.lt) (by decide) (by decide))
      clear HDy
      go_wp2
      go_loopw [4, 6] (fun v i wr => ∃ (k p : Nat) (G : Nat → Int), i = .int .i64 (k : Int) ∧ k ≤ 300 ∧ p = 4 + 2 * k ∧ Db C a n cap w wr v p G) (fun _ i _ => 300 - (intOf i).toNat)
      case atStart => exact ⟨0, _, _, rfl, by omega, rfl, HD4.out⟩
      case round =>
        clear HD4
        obtain ⟨k, p, G, rfl, hk, hp, hD⟩ := hrel
        have HDl := hide hD
        have Hp := hide hp
        have Hk := hide hk
        obtain ⟨ea, ec, rfl⟩ := ownsRow_slc hD.own
        clear hD hp
        by_cases hkn : k < 300
        · have hki : (k : Int) < 300 := by omega
          have HS := hide (lit_seg wr [5, 0])
          have E5 := Ext.alloc wr (.cells (([5, 0] : List Int).map (Value.int .u8)).toArray 5)
          have HO5 := hide (owns_ext' HDl.out.own E5)
          have HE5 := hide (E5.mono HDl.out.lt)
          clear E5 hk
          go_wp2_with (at_builtin; refine stop_app rfl ?_)
          refine hide ?_
          refine wpList_append_bs rfl _ _ rfl (C + 1) _ p (byts G p) rfl HO5.out _ wr.heap.size 0 2 2 (litF [5, 0]) rfl HS.out (by have := Hp.out; have := Hk.out; omega) (Nat.le_trans HDl.out.lt (by simp)) ?_
          intro v6 w6 hO6 hE6
          rw [byts_append] at hO6
          have HD6 := hide (HDl.out.next hO6 (Below.trans HE5.out hE6) (catF_rng HDl.out.rng (by decide)) (by have := Hp.out; have := Hk.out; omega))
          clear hO6 hE6 HDl HS HO5 HE5
          go_wp2
          go_roundw
          case rel => exact ⟨k + 1, p + 2, _, by rfl, hkn, by have := Hp.out; omega, HD6.out⟩
          case measure => simp only [intOf]; omega
        · have hki : ¬ (k : Int) < 300 := by omega
          have HR := hide (HDl.out.gives HCw.out.symm)
          clear HDl hk
          go_wp2
          go_ret
          exact HR.out
    have HR := hide (HDy.out.gives HCw.out.symm)
    clear HDy
    go_wp2
    go_ret
    exact HR.out
  by_cases j1 : z = 1
  · subst j1
    clear z0 z1
    go_wp2_with fail
    refine (l1Below_any C a b off n cap f (m : Int) _ HD4.out.cur (HD4.out.code HKK) hn (by omega) (by have := Hm.out; omega)).mono ?_
    rintro e w5 ⟨i, rfl, i0, i1, hC5, T5⟩
    obtain ⟨i, rfl⟩ := Int.eq_ofNat_of_zero_le i0
    have hD5 := HD4.out.touch T5 hC5
    have him : i < m := by omega
    have hii : (i : Int) ≤ (c0 : Int) := by
      obtain ⟨xa, xg, xc, hx, -, h1, -, -⟩ := owns_seg hD5.own
      simp only [Value.slice.injEq, true_and] at hx
      omega
    have hii0 : (0 : Int) ≤ (i : Int) := by omega
    obtain ⟨g, c6, hv, hg, hgl⟩ := slc_at hD5.own (by omega)
    simp only [Value.slice.injEq, true_and] at hv
    obtain ⟨rfl, rfl⟩ := hv
    have HDz := hide (hD5.next (owns_cutB hD5.own (Nat.le_of_lt him)) (Below.refl _ _) (fun j hj => hD5.rng j (by omega)) (by have := hD5.len; omega))
    clear hD5 hC5 T5 HD4 hg hgl i0 i1
    go_wp2_with fail
    refine (l1Below_any C a b off n cap f 60 _ HDz.out.cur (HDz.out.code HKK) hn (by omega) (by omega)).mono ?_
    rintro e y1 ⟨q, rfl, q0, q1, hCy, Ty⟩
    have HDy := hide (HDz.out.touch Ty hCy)
    clear hCy Ty HDz
    by_cases k0 : q = 0
    · subst k0
      clear q0 q1
      go_wp2_with fail
      refine (l1Below_any C a b off n cap f 2 _ HDy.out.cur (HDy.out.code HKK) hn (by omega) (by omega)).mono ?_
      rintro e y2 ⟨x, rfl, x0, x1, hCy, Ty⟩
      have HDz := hide (HDy.out.touch Ty hCy)
      obtain ⟨r, hr⟩ : ∃ r : Nat, 4000 + x = (r : Int) := ⟨(4000 + x).toNat, by omega⟩
      have wr : wrap64 (4000 + x) = (r : Int) := by rw [← hr]; unfold wrap64; omega
      have wr' : IntKind.i64.wrap (4000 + x) = (r : Int) := by rw [IntKind.wrap_i64]; omega
      have r1 : r ≤ 4001 := by omega
      have r2 : (0 : Int) ≤ (r : Int) := by omega
      have hmk := run_make_row' (P := Tryd.prog) 22 5 (.int .u8 0) 1 Tryd.underlying22 Tryd.info5 rfl .i64 .i64 r (by omega) (by omega)
      have E5 := Ext.alloc y2 (.cells (madeCells #[.int .u8 0] r) 5)
      have HR := hide ((HDz.out.next (owns_noughts (C + 1) r y2 HDz.out.lt (by omega)) (E5.mono HDz.out.lt) (fun i _ => by show (0 : Int) ≤ 0 ∧ (0 : Int) < 256; decide) (by omega)).gives HCw.out.symm)
      clear hCy Ty HDy HDz hr x0 x1 E5
      have r3 : (r : Int) ≤ 4001 := by omega
      go_wp2
      go_ret
      exact HR.out
    by_cases k1 : q = 1
    · subst k1
      clear q0 q1
      have HD4 := hide (HDy.out.next (lit_own y1 (C + 1) [48, 130, 2, 88] (by decide) HDy.out.lt) ((Ext.alloc y1 _).mono HDy.out.lt) (by decide) (by decide))
      clear HDy
      go_wp2
      go_loopw [4, 6] (fun v i wr => ∃ (k p : Nat) (G : Nat → Int), i = .int .i64 (k : Int) ∧ k ≤ 300 ∧ p = 4 + 2 * k ∧ Db C a n cap w wr v p G) (fun _ i _ => 300 - (intOf i).toNat)
      case atStart => exact ⟨0, _, _, rfl, by omega, rfl, HD4.out⟩
      case round =>
        clear HD4
        obtain ⟨k, p, G, rfl, hk, hp, hD⟩ := hrel
        have HDl := hide hD
        have Hp := hide hp
        have Hk := hide hk
        obtain ⟨ea, ec, rfl⟩ := ownsRow_slc hD.own
        clear hD hp
        by_cases hkn : k < 300
        · have hki : (k : Int) < 300 := by omega
          have HS := hide (lit_seg wr [5, 0])
          have E5 := Ext.alloc wr (.cells (([5, 0] : List Int).map (Value.int .u8)).toArray 5)
          have HO5 := hide (owns_ext' HDl.out.own E5)
          have HE5 := hide (E5.mono HDl.out.lt)
          clear E5 hk
          go_wp2_with (at_builtin; refine stop_app rfl ?_)
          refine hide ?_
          refine wpList_append_bs rfl _ _ rfl (C + 1) _ p (byts G p) rfl HO5.out _ wr.heap.size 0 2 2 (litF [5, 0]) rfl HS.out (by have := Hp.out; have := Hk.out; omega) (Nat.le_trans HDl.out.lt (by simp)) ?_
          intro v6 w6 hO6 hE6
          rw [byts_append] at hO6
          have HD6 := hide (HDl.out.next hO6 (Below.trans HE5.out hE6) (catF_rng HDl.out.rng (by decide)) (by have := Hp.out; have := Hk.out; omega))
          clear hO6 hE6 HDl HS HO5 HE5
          go_wp2
          go_roundw
          case rel => exact ⟨k + 1, p + 2, _, by rfl, hkn, by have := Hp.out; omega, HD6.out⟩
          case measure => simp only [intOf]; omega
        · have hki : ¬ (k : Int) < 300 := by omega
          have HR := hide (HDl.out.gives HCw.out.symm)
          clear HDl hk
          go_wp2
          go_ret
          exact HR.out
    have HR := hide (HDy.out.gives HCw.out.symm)
    clear HDy
    go_wp2
    go_ret
    exact HR.out
  by_cases j2 : z = 2
  · subst j2
    clear z0 z1
    go_wp2_with fail
    refine (l1Byte_any C a b off n cap f _ HD4.out.cur (HD4.out.code HKK) hn).mono ?_
    rintro e w6 ⟨u, rfl, u0, u1, hC6, T6⟩
    have hD6 := HD4.out.touch T6 hC6
    have uu : u % 256 = u := by omega
    have E5 := Ext.alloc w6 (.cells #[.int .u8 u] 5)
    have HS := hide (bseg_one8 w6 u)
    have HO5 := hide (owns_ext' hD6.own E5)
    have HE5 := hide (E5.mono hD6.lt)
    have HD6 := hide hD6
    have Hu := hide (And.intro u0 u1)
    clear hD6 hC6 T6 HD4 E5
    go_wp2_with (at_builtin; refine stop_app rfl ?_)
    refine hide ?_
    refine wpList_append_bs rfl _ _ rfl (C + 1) _ m (byts F m) rfl HO5.out _ w6.heap.size 0 1 1 (fun _ => u) rfl HS.out (by have := Hm.out; omega) (Nat.le_trans HD6.out.lt (by simp)) ?_
    intro v7 w7 hO7 hE7
    rw [byts_append] at hO7
    have HDz := hide (HD6.out.next hO7 (Below.trans HE5.out hE7) (catF_rng HD6.out.rng (fun i _ => by have := Hu.out; show 0 ≤ u ∧ u < 256; omega)) (by have := Hm.out; omega))
    obtain ⟨a7, c7, rfl⟩ := ownsRow_slc hO7
    clear hO7 hE7 HD6 HS HO5 HE5 uu u0 u1
    go_wp2_with fail
    refine (l1Below_any C a b off n cap f 60 _ HDz.out.cur (HDz.out.code HKK) hn (by omega) (by omega)).mono ?_
    rintro e y1 ⟨q, rfl, q0, q1, hCy, Ty⟩
    have HDy := hide (HDz.out.touch Ty hCy)
    clear hCy Ty HDz
    by_cases k0 : q = 0
    · subst k0
      clear q0 q1
      go_wp2_with fail
      refine (l1Below_any C a b off n cap f 2 _ HDy.out.cur (HDy.out.code HKK) hn (by omega) (by omega)).mono ?_
      rintro e y2 ⟨x, rfl, x0, x1, hCy, Ty⟩
      have HDz := hide (HDy.out.touch Ty hCy)
      obtain ⟨r, hr⟩ : ∃ r : Nat, 4000 + x = (r : Int) := ⟨(4000 + x).toNat, by omega⟩
      have wr : wrap64 (4000 + x) = (r : Int) := by rw [← hr]; unfold wrap64; omega
      have wr' : IntKind.i64.wrap (4000 + x) = (r : Int) := by rw [IntKind.wrap_i64]; omega
      have r1 : r ≤ 4001 := by omega
      have r2 : (0 : Int) ≤ (r : Int) := by omega
      have hmk := run_make_row' (P := Tryd.prog) 22 5 (.int .u8 0) 1 Tryd.underlying22 Tryd.info5 rfl .i64 .i64 r (by omega) (by omega)
      have E5 := Ext.alloc y2 (.cells (madeCells #[.int .u8 0] r) 5)
      have HR := hide ((HDz.out.next (owns_noughts (C + 1) r y2 HDz.out.lt (by omega)) (E5.mono HDz.out.lt) (fun i _ => by show (0 : Int) ≤ 0 ∧ (0 : Int) < 256; decide) (by omega)).gives HCw.out.symm)
      clear hCy Ty HDy HDz hr x0 x1 E5
      have r3 : (r : Int) ≤ 4001 := by omega
      go_wp2
      go_ret
      exact HR.out
    by_cases k1 : q = 1
    · subst k1
      clear q0 q1
      have HD4 := hide (HDy.out.next (lit_own y1 (C + 1) [48, 130, 2, 88] (by decide) HDy.out.lt) ((Ext.alloc y1 _).mono HDy.out.lt) (by decide) (by decide))
      clear HDy
      go_wp2
      go_loopw [4, 6] (fun v i wr => ∃ (k p : Nat) (G : Nat → Int), i = .int .i64 (k : Int) ∧ k ≤ 300 ∧ p = 4 + 2 * k ∧ Db C a n cap w wr v p G) (fun _ i _ => 300 - (intOf i).toNat)
      case atStart => exact ⟨0, _, _, rfl, by omega, rfl, HD4.out⟩
      case round =>
        clear HD4
        obtain ⟨k, p, G, rfl, hk, hp, hD⟩ := hrel
        have HDl := hide hD
        have Hp := hide hp
        have Hk := hide hk
        obtain ⟨ea, ec, rfl⟩ := ownsRow_slc hD.own
        clear hD hp
        by_cases hkn : k < 300
        · have hki : (k : Int) < 300 := by omega
          have HS := hide (lit_seg wr [5, 0])
          have E5 := Ext.alloc wr (.cells (([5, 0] : List Int).map (Value.int .u8)).toArray 5)
          have HO5 := hide (owns_ext' HDl.out.own E5)
          have HE5 := hide (E5.mono HDl.out.lt)
          clear E5 hk
          go_wp2_with (at_builtin; refine stop_app rfl ?_)
          refine hide ?_
          refine wpList_append_bs rfl _ _ rfl (C + 1) _ p (byts G p) rfl HO5.out _ wr.heap.size 0 2 2 (litF [5, 0]) rfl HS.out (by have := Hp.out; have := Hk.out; omega) (Nat.le_trans HDl.out.lt (by simp)) ?_
          intro v6 w6 hO6 hE6
          rw [byts_append] at hO6
          have HD6 := hide (HDl.out.next hO6 (Below.trans HE5.out hE6) (catF_rng HDl.out.rng (by decide)) (by have := Hp.out; have := Hk.out; omega))
          clear hO6 hE6 HDl HS HO5 HE5
          go_wp2
          go_roundw
          case rel => exact ⟨k + 1, p + 2, _, by rfl, hkn, by have := Hp.out; omega, HD6.out⟩
          case measure => simp only [intOf]; omega
        · have hki : ¬ (k : Int) < 300 := by omega
          have HR := hide (HDl.out.gives HCw.out.symm)
          clear HDl hk
          go_wp2
          go_ret
          exact HR.out
    have HR := hide (HDy.out.gives HCw.out.symm)
    clear HDy
    go_wp2
    go_ret
    exact HR.out
  by_cases j3 : z = 3
  · subst j3
    clear z0 z1
    obtain ⟨zz, hzz⟩ : ∃ z, (m : Int) % 256 = z := ⟨_, rfl⟩
    have hz2 : 0 ≤ zz ∧ zz < 256 := by omega
    have Hz2 := hide hz2
    have O5 := lit_own w4 (C + 1) [48, 129, zz] (by simp) HD4.out.lt
    have E5 := Ext.alloc w4 (.cells (([48, 129, zz] : List Int).map (Value.int .u8)).toArray 5)
    obtain ⟨xa, xg, xc, hx, -, -, -, hxB⟩ := owns_seg HD4.out.own
    simp only [Value.slice.injEq, true_and] at hx
    obtain ⟨rfl, rfl⟩ := hx
    have HS := hide ((hxB.toBSeg).of_all E5)
    have HO5 := hide O5
    have HE5 := hide (E5.mono HD4.out.lt)
    clear hz2 O5 E5 hxB
    go_wp2_with (at_builtin; refine stop_app rfl ?_)
    refine hide ?_
    refine wpList_append_bs rfl _ _ rfl (C + 1) _ 3 (byts (litF [48, 129, zz]) 3) rfl HO5.out _ _ _ m _ F rfl HS.out (by have := Hm.out; omega) (Nat.le_trans HD4.out.lt (by simp)) ?_
    intro v6 w6 hO6 hE6
    rw [byts_append] at hO6
    have HD6 := hide (HD4.out.next hO6 (Below.trans HE5.out hE6) (catF_rng (fun i hi => by
      have := Hz2.out
      have h : i = 0 ∨ i = 1 ∨ i = 2 := by omega
      rcases h with rfl | rfl | rfl
      · show (0 : Int) ≤ 48 ∧ 48 < (256 : Int); decide
      · show (0 : Int) ≤ 129 ∧ 129 < (256 : Int); decide
      · show 0 ≤ zz ∧ zz < 256; exact this) HD4.out.rng) (by have := Hm.out; omega))
    obtain ⟨a6, c6, rfl⟩ := ownsRow_slc hO6
    clear hO6 hE6 HD4 HS HO5 HE5 hzz
    go_wp2_with fail
    refine (l1Below_any C a b off n cap f 60 _ HD6.out.cur (HD6.out.code HKK) hn (by omega) (by omega)).mono ?_
    rintro e y1 ⟨q, rfl, q0, q1, hCy, Ty⟩
    have HDy := hide (HD6.out.touch Ty hCy)
    clear hCy Ty HD6
    by_cases k0 : q = 0
    · subst k0
      clear q0 q1
      go_wp2_with fail
      refine (l1Below_any C a b off n cap f 2 _ HDy.out.cur (HDy.out.code HKK) hn (by omega) (by omega)).mono ?_
      rintro e y2 ⟨x, rfl, x0, x1, hCy, Ty⟩
      have HDz := hide (HDy.out.touch Ty hCy)
      obtain ⟨r, hr⟩ : ∃ r : Nat, 4000 + x = (r : Int) := ⟨(4000 + x).toNat, by omega⟩
      have wr : wrap64 (4000 + x) = (r : Int) := by rw [← hr]; unfold wrap64; omega
      have wr' : IntKind.i64.wrap (4000 + x) = (r : Int) := by rw [IntKind.wrap_i64]; omega
      have r1 : r ≤ 4001 := by omega
      have r2 : (0 : Int) ≤ (r : Int) := by omega
      have hmk := run_make_row' (P := Tryd.prog) 22 5 (.int .u8 0) 1 Tryd.underlying22 Tryd.info5 rfl .i64 .i64 r (by omega) (by omega)
      have E5 := Ext.alloc y2 (.cells (madeCells #[.int .u8 0] r) 5)
      have HR := hide ((HDz.out.next (owns_noughts (C + 1) r y2 HDz.out.lt (by omega)) (E5.mono HDz.out.lt) (fun i _ => by show (0 : Int) ≤ 0 ∧ (0 : Int) < 256; decide) (by omega)).gives HCw.out.symm)
      clear hCy Ty HDy HDz hr x0 x1 E5
      have r3 : (r : Int) ≤ 4001 := by omega
      go_wp2
      go_ret
      exact HR.out
    by_cases k1 : q = 1
    · subst k1
      clear q0 q1
      have HD4 := hide (HDy.out.next (lit_own y1 (C + 1) [48, 130, 2, 88] (by decide) HDy.out.lt) ((Ext.alloc y1 _).mono HDy.out.lt) (by decide) (by decide))
      clear HDy
      go_wp2
      go_loopw [4, 6] (fun v i wr => ∃ (k p : Nat) (G : Nat → Int), i = .int .i64 (k : Int) ∧ k ≤ 300 ∧ p = 4 + 2 * k ∧ Db C a n cap w wr v p G) (fun _ i _ => 300 - (intOf i).toNat)
      case atStart => exact ⟨0, _, _, rfl, by omega, rfl, HD4.out⟩
      case round =>
        clear HD4
        obtain ⟨k, p, G, rfl, hk, hp, hD⟩ := hrel
        have HDl := hide hD
        have Hp := hide hp
        have Hk := hide hk
        obtain ⟨ea, ec, rfl⟩ := ownsRow_slc hD.own
        clear hD hp
        by_cases hkn : k < 300
        · have hki : (k : Int) < 300 := by omega
          have HS := hide (lit_seg wr [5, 0])
          have E5 := Ext.alloc wr (.cells (([5, 0] : List Int).map (Value.int .u8)).toArray 5)
          have HO5 := hide (owns_ext' HDl.out.own E5)
          have HE5 := hide (E5.mono HDl.out.lt)
          clear E5 hk
          go_wp2_with (at_builtin; refine stop_app rfl ?_)
          refine hide ?_
          refine wpList_append_bs rfl _ _ rfl (C + 1) _ p (byts G p) rfl HO5.out _ wr.heap.size 0 2 2 (litF [5, 0]) rfl HS.out (by have := Hp.out; have := Hk.out; omega) (Nat.le_trans HDl.out.lt (by simp)) ?_
          intro v6 w6 hO6 hE6
          rw [byts_append] at hO6
          have HD6 := hide (HDl.out.next hO6 (Below.trans HE5.out hE6) (catF_rng HDl.out.rng (by decide)) (by have := Hp.out; have := Hk.out; omega))
          clear hO6 hE6 HDl HS HO5 HE5
          go_wp2
          go_roundw
          case rel => exact ⟨k + 1, p + 2, _, by rfl, hkn, by have := Hp.out; omega, HD6.out⟩
          case measure => simp only [intOf]; omega
        · have hki : ¬ (k : Int) < 300 := by omega
          have HR := hide (HDl.out.gives HCw.out.symm)
          clear HDl hk
          go_wp2
          go_ret
          exact HR.out
    have HR := hide (HDy.out.gives HCw.out.symm)
    clear HDy
    go_wp2
    go_ret
    exact HR.out
  by_cases j4 : z = 4
  · subst j4
    clear z0 z1
    obtain ⟨zz, hzz⟩ : ∃ z, (m : Int) % 256 = z := ⟨_, rfl⟩
    have hz2 : 0 ≤ zz ∧ zz < 256 := by omega
    have Hz2 := hide hz2
    have O5 := lit_own w4 (C + 1) [48, 130, 0, zz] (by simp) HD4.out.lt
    have E5 := Ext.alloc w4 (.cells (([48, 130, 0, zz] : List Int).map (Value.int .u8)).toArray 5)
    obtain ⟨xa, xg, xc, hx, -, -, -, hxB⟩ := owns_seg HD4.out.own
    simp only [Value.slice.injEq, true_and] at hx
    obtain ⟨rfl, rfl⟩ := hx
    have HS := hide ((hxB.toBSeg).of_all E5)
    have HO5 := hide O5
    have HE5 := hide (E5.mono HD4.out.lt)
    clear hz2 O5 E5 hxB
    go_wp2_with (at_builtin; refine stop_app rfl ?_)
    refine hide ?_
    refine wpList_append_bs rfl _ _ rfl (C + 1) _ 4 (byts (litF [48, 130, 0, zz]) 4) rfl HO5.out _ _ _ m _ F rfl HS.out (by have := Hm.out; omega) (Nat.le_trans HD4.out.lt (by simp)) ?_
    intro v6 w6 hO6 hE6
    rw [byts_append] at hO6
    have HD6 := hide (HD4.out.next hO6 (Below.trans HE5.out hE6) (catF_rng (fun i hi => by
      have := Hz2.out
      have h : i = 0 ∨ i = 1 ∨ i = 2 ∨ i = 3 := by omega
      rcases h with rfl | rfl | rfl | rfl
      · show (0 : Int) ≤ 48 ∧ 48 < (256 : Int); decide
      · show (0 : Int) ≤ 130 ∧ 130 < (256 : Int); decide
      · show (0 : Int) ≤ 0 ∧ 0 < (256 : Int); decide
      · show 0 ≤ zz ∧ zz < 256; exact this) HD4.out.rng) (by have := Hm.out; omega))
    obtain ⟨a6, c6, rfl⟩ := ownsRow_slc hO6
    clear hO6 hE6 HD4 HS HO5 HE5 hzz
    go_wp2_with fail
    refine (l1Below_any C a b off n cap f 60 _ HD6.out.cur (HD6.out.code HKK) hn (by omega) (by omega)).mono ?_
    rintro e y1 ⟨q, rfl, q0, q1, hCy, Ty⟩
    have HDy := hide (HD6.out.touch Ty hCy)
    clear hCy Ty HD6
    by_cases k0 : q = 0
    · subst k0
      clear q0 q1
      go_wp2_with fail
      refine (l1Below_any C a b off n cap f 2 _ HDy.out.cur (HDy.out.code HKK) hn (by omega) (by omega)).mono ?_
      rintro e y2 ⟨x, rfl, x0, x1, hCy, Ty⟩
      have HDz := hide (HDy.out.touch Ty hCy)
      obtain ⟨r, hr⟩ : ∃ r : Nat, 4000 + x = (r : Int) := ⟨(4000 + x).toNat, by omega⟩
      have wr : wrap64 (4000 + x) = (r : Int) := by rw [← hr]; unfold wrap64; omega
      have wr' : IntKind.i64.wrap (4000 + x) = (r : Int) := by rw [IntKind.wrap_i64]; omega
      have r1 : r ≤ 4001 := by omega
      have r2 : (0 : Int) ≤ (r : Int) := by omega
      have hmk := run_make_row' (P := Tryd.prog) 22 5 (.int .u8 0) 1 Tryd.underlying22 Tryd.info5 rfl .i64 .i64 r (by omega) (by omega)
      have E5 := Ext.alloc y2 (.cells (madeCells #[.int .u8 0] r) 5)
      have HR := hide ((HDz.out.next (owns_noughts (C + 1) r y2 HDz.out.lt (by omega)) (E5.mono HDz.out.lt) (fun i _ => by show (0 : Int) ≤ 0 ∧ (0 : Int) < 256; decide) (by omega)).gives HCw.out.symm)
      clear hCy Ty HDy HDz hr x0 x1 E5
      have r3 : (r : Int) ≤ 4001 := by omega
      go_wp2
      go_ret
      exact HR.out
    by_cases k1 : q = 1
    · subst k1
      clear q0 q1
      have HD4 := hide (HDy.out.next (lit_own y1 (C + 1) [48, 130, 2, 88] (by decide) HDy.out.lt) ((Ext.alloc y1 _).mono HDy.out.lt) (by decide) (by decide))
      clear HDy
      go_wp2
      go_loopw [4, 6] (fun v i wr => ∃ (k p : Nat) (G : Nat → Int), i = .int .i64 (k : Int) ∧ k ≤ 300 ∧ p = 4 + 2 * k ∧ Db C a n cap w wr v p G) (fun _ i _ => 300 - (intOf i).toNat)
      case atStart => exact ⟨0, _, _, rfl, by omega, rfl, HD4.out⟩
      case round =>
        clear HD4
        obtain ⟨k, p, G, rfl, hk, hp, hD⟩ := hrel
        have HDl := hide hD
        have Hp := hide hp
        have Hk := hide hk
        obtain ⟨ea, ec, rfl⟩ := ownsRow_slc hD.own
        clear hD hp
        by_cases hkn : k < 300
        · have hki : (k : Int) < 300 := by omega
          have HS := hide (lit_seg wr [5, 0])
          have E5 := Ext.alloc wr (.cells (([5, 0] : List Int).map (Value.int .u8)).toArray 5)
          have HO5 := hide (owns_ext' HDl.out.own E5)
          have HE5 := hide (E5.mono HDl.out.lt)
          clear E5 hk
          go_wp2_with (at_builtin; refine stop_app rfl ?_)
          refine hide ?_
          refine wpList_append_bs rfl _ _ rfl (C + 1) _ p (byts G p) rfl HO5.out _ wr.heap.size 0 2 2 (litF [5, 0]) rfl HS.out (by have := Hp.out; have := Hk.out; omega) (Nat.le_trans HDl.out.lt (by simp)) ?_
          intro v6 w6 hO6 hE6
          rw [byts_append] at hO6
          have HD6 := hide (HDl.out.next hO6 (Below.trans HE5.out hE6) (catF_rng HDl.out.rng (by decide)) (by have := Hp.out; have := Hk.out; omega))
          clear hO6 hE6 HDl HS HO5 HE5
          go_wp2
          go_roundw
          case rel => exact ⟨k + 1, p + 2, _, by rfl, hkn, by have := Hp.out; omega, HD6.out⟩
          case measure => simp only [intOf]; omega
        · have hki : ¬ (k : Int) < 300 := by omega
          have HR := hide (HDl.out.gives HCw.out.symm)
          clear HDl hk
          go_wp2
          go_ret
          exact HR.out
    have HR := hide (HDy.out.gives HCw.out.symm)
    clear HDy
    go_wp2
    go_ret
    exact HR.out
  go_wp2_with fail
  refine (l1Below_any C a b off n cap f 60 _ HD4.out.cur (HD4.out.code HKK) hn (by omega) (by omega)).mono ?_
  rintro e y1 ⟨q, rfl, q0, q1, hCy, Ty⟩
  have HDy := hide (HD4.out.touch Ty hCy)
  clear hCy Ty HD4
  by_cases k0 : q = 0
  · subst k0
    clear q0 q1
    go_wp2_with fail
    refine (l1Below_any C a b off n cap f 2 _ HDy.out.cur (HDy.out.code HKK) hn (by omega) (by omega)).mono ?_
    rintro e y2 ⟨x, rfl, x0, x1, hCy, Ty⟩
    have HDz := hide (HDy.out.touch Ty hCy)
    obtain ⟨r, hr⟩ : ∃ r : Nat, 4000 + x = (r : Int) := ⟨(4000 + x).toNat, by omega⟩
    have wr : wrap64 (4000 + x) = (r : Int) := by rw [← hr]; unfold wrap64; omega
    have wr' : IntKind.i64.wrap (4000 + x) = (r : Int) := by rw [IntKind.wrap_i64]; omega
    have r1 : r ≤ 4001 := by omega
    have r2 : (0 : Int) ≤ (r : Int) := by omega
    have hmk := run_make_row' (P := Tryd.prog) 22 5 (.int .u8 0) 1 Tryd.underlying22 Tryd.info5 rfl .i64 .i64 r (by omega) (by omega)
    have E5 := Ext.alloc y2 (.cells (madeCells #[.int .u8 0] r) 5)
    have HR := hide ((HDz.out.next (owns_noughts (C + 1) r y2 HDz.out.lt (by omega)) (E5.mono HDz.out.lt) (fun i _ => by show (0 : Int) ≤ 0 ∧ (0 : Int) < 256; decide) (by omega)).gives HCw.out.symm)
    clear hCy Ty HDy HDz hr x0 x1 E5
    have r3 : (r : Int) ≤ 4001 := by omega
    go_wp2
    go_ret
    exact HR.out
  by_cases k1 : q = 1
  · subst k1
    clear q0 q1
    have HD4 := hide (HDy.out.next (lit_own y1 (C + 1) [48, 130, 2, 88] (by decide) HDy.out.lt) ((Ext.alloc y1 _).mono HDy.out.lt) (by decide) (by decide))
    clear HDy
    go_wp2
    go_loopw [4, 6] (fun v i wr => ∃ (k p : Nat) (G : Nat → Int), i = .int .i64 (k : Int) ∧ k ≤ 300 ∧ p = 4 + 2 * k ∧ Db C a n cap w wr v p G) (fun _ i _ => 300 - (intOf i).toNat)
    case atStart => exact ⟨0, _, _, rfl, by omega, rfl, HD4.out⟩
    case round =>
      clear HD4
      obtain ⟨k, p, G, rfl, hk, hp, hD⟩ := hrel
      have HDl := hide hD
      have Hp := hide hp
      have Hk := hide hk
      obtain ⟨ea, ec, rfl⟩ := ownsRow_slc hD.own
      clear hD hp
      by_cases hkn : k < 300
      · have hki : (k : Int) < 300 := by omega
        have HS := hide (lit_seg wr [5, 0])
        have E5 := Ext.alloc wr (.cells (([5, 0] : List Int).map (Value.int .u8)).toArray 5)
        have HO5 := hide (owns_ext' HDl.out.own E5)
        have HE5 := hide (E5.mono HDl.out.lt)
        clear E5 hk
        go_wp2_with (at_builtin; refine stop_app rfl ?_)
        refine hide ?_
        refine wpList_append_bs rfl _ _ rfl (C + 1) _ p (byts G p) rfl HO5.out _ wr.heap.size 0 2 2 (litF [5, 0]) rfl HS.out (by have := Hp.out; have := Hk.out; omega) (Nat.le_trans HDl.out.lt (by simp)) ?_
        intro v6 w6 hO6 hE6
        rw [byts_append] at hO6
        have HD6 := hide (HDl.out.next hO6 (Below.trans HE5.out hE6) (catF_rng HDl.out.rng (by decide)) (by have := Hp.out; have := Hk.out; omega))
        clear hO6 hE6 HDl HS HO5 HE5
        go_wp2
        go_roundw
        case rel => exact ⟨k + 1, p + 2, _, by rfl, hkn, by have := Hp.out; omega, HD6.out⟩
        case measure => simp only [intOf]; omega
      · have hki : ¬ (k : Int) < 300 := by omega
        have HR := hide (HDl.out.gives HCw.out.symm)
        clear HDl hk
        go_wp2
        go_ret
        exact HR.out
  have HR := hide (HDy.out.gives HCw.out.symm)
  clear HDy
  go_wp2
  go_ret
  exact HR.out
end

end Go.Proofs.YtmcdikbcmikihaaDoor
