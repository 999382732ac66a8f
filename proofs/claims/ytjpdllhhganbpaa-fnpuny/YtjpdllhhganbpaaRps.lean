/- Walks: ReadPuny of the model. -/
import Derived.Test.YtjpdllhhganbpaaRpi
namespace Go.Proofs.Ytjpdllhhganbpaa
set_option linter.unusedVariables false
set_option linter.unusedSimpArgs false
open Go.RowKit Go.Sort

theorem ints_drop (L : List Int) (i : Nat) : ints (fun k => L.getD (i + k) 0) (L.length - i) = wl (L.drop i) := by
  rw [wl_ints, List.length_drop]
  refine intz_congr (fun k hk => ?_)
  simp [List.getD_eq_getElem?_getD, List.getElem?_drop]
theorem ints_take (L : List Int) (i : Nat) (h : i ≤ L.length) : ints (fun k => L.getD k 0) i = wl (L.take i) := by
  rw [wl_ints, List.length_take, Nat.min_eq_left h]
  refine intz_congr (fun k hk => ?_)
  simp [List.getD_eq_getElem?_getD, List.getElem?_take, hk]
theorem wl_app (A B : List Int) : wl (A ++ B) = wl A ++ wl B := by simp [wl]

/-- The bounds of a delta in the model's reading. -/
theorem rdM_step {old D W d t : Int} (hp : PW D W) (h0 : 0 ≤ old) (h1 : ¬ 1099511627776 < old + D) (h2 : ¬ 1099511627776 < W) (hd0 : ¬ d < 0) (hd1 : d < 36) (t1 : 1 ≤ t) (t2 : t ≤ 26) :
    (0 ≤ d * W ∧ d * W ≤ 1000000000000000) ∧ (0 ≤ D + d * W ∧ D + d * W ≤ 39582418599936) ∧ (0 ≤ W * (36 - t) ∧ W * (36 - t) ≤ 38482906972160) := by
  have hm := hp.mul (d := d) (by omega) (by omega)
  have hw := hp.w1
  have hd := hp.d0
  have p2 : W * (36 - t) ≤ W * 35 := Int.mul_le_mul_of_nonneg_left (by omega) (by omega)
  have p3 : 0 ≤ W * (36 - t) := Int.mul_nonneg (by omega) (by omega)
  exact ⟨⟨hm.1, by omega⟩, ⟨by omega, by omega⟩, ⟨p3, by omega⟩⟩

theorem own_some {w : World} {B : Nat} {v : Value} {L : List Int} (h : w.ownsRow B 3 1 v L.length (wl L)) (hv : v ≠ .slice none 0 0) : ∃ g cap, v = .slice (some ⟨g, 0, none⟩) L.length cap ∧ g < w.heap.size ∧ L.length ≤ cap ∧ cap ≤ 9223372036854775807 ∧ Own w (some ⟨g, 0, none⟩) g 0 L.length (fun i => L.getD i 0) := by
  rcases h.2 with ⟨rfl, _⟩ | ⟨g, cap, cur, rfl, hb, hg, hnc, hcm, rest⟩
  · exact absurd rfl hv
  · obtain ⟨a, g', cap', he, h1, h2, h3, h4⟩ := own_of_wl h
    simp only [Value.slice.injEq, true_and] at he
    obtain ⟨rfl, rfl⟩ := he
    refine ⟨g, cap, rfl, (Array.getElem?_eq_some_iff.1 hg).1, hnc, h3, ?_⟩
    by_cases h0 : 0 < L.length
    · have := h4.toSeg.at' h0
      simp only [Option.some.injEq, Addr.mk.injEq, and_true] at this
      rw [this]
      rw [this] at h4
      exact h4
    · exact ⟨⟨fun h => absurd h h0, fun i hi => by omega⟩, fun i hi => by omega⟩
theorem ne_nil {w : World} {B n : Nat} {v : Value} {xs : List Value} (h : w.ownsRow B 3 1 v n xs) (hn : 0 < n) : v ≠ .slice none 0 0 := by
  rintro rfl
  rcases h.2 with ⟨_, h0⟩ | ⟨g, cap, cur, h1, _⟩
  · omega
  · simp at h1

theorem rk_next {k : Int} {p : Nat} (h0 : 36 ≤ k) (h1 : k ≤ 36 * ((p : Int) + 1)) : 36 ≤ k + 36 ∧ k + 36 ≤ 36 * (((p + 1 : Nat) : Int) + 1) := by omega
theorem rk_k {k : Int} {p n : Nat} (h0 : 36 ≤ k) (h1 : k ≤ 36 * ((p : Int) + 1)) (h2 : p ≤ n) (h3 : n ≤ 60) : 0 ≤ k ∧ k ≤ 4000000000 := by omega
theorem rk_f {pl E k : Int} {p n : Nat} (h0 : 0 ≤ pl) (h1 : pl ≤ 60) (s2 : 0 ≤ E ∧ E ≤ 39582418599936) (k0 : 36 ≤ k) (k1 : k ≤ 36 * ((p : Int) + 1)) (h2 : p ≤ n) (h3 : n ≤ 60) : (0 ≤ pl + E ∧ pl + E ≤ 1000000000000000) ∧ (0 ≤ k + 36 ∧ k + 36 ≤ 1000000000000000) := by omega
theorem rk_sub (a b : Int) : a + b - a = b := by omega
theorem rk_less {p n : Nat} (h : p < n) : n - ((p : Int) + 1).toNat < n - ((p : Int)).toNat := by omega

theorem rk_len (L : List Int) : 1 ≤ (L.length : Int) + 1 ∧ (L.length ≤ 60 → (L.length : Int) + 1 ≤ 100) := by omega
theorem rk_ne (L : List Int) : ((L.length : Int) + 1 == 0) = false := by simp; omega
theorem rk_small (L : List Int) {nn pl E : Int} (h0 : 0 ≤ pl) (e0 : 0 ≤ E) (n0 : 128 ≤ nn) (h : ¬ (1114111 < nn + (pl + E) / ((L.length : Int) + 1) ∨ 20 < (L.length : Int) + 1)) : E ≤ 30000000 := by
  have h1 : (pl + E) / ((L.length : Int) + 1) ≤ 1114111 := by omega
  have h2 : (L.length : Int) + 1 ≤ 20 := by omega
  have h3 := Int.mul_ediv_add_emod (pl + E) ((L.length : Int) + 1)
  have h4 := Int.emod_lt_of_pos (pl + E) (show 0 < (L.length : Int) + 1 by omega)
  have h5 : ((L.length : Int) + 1) * ((pl + E) / ((L.length : Int) + 1)) ≤ ((L.length : Int) + 1) * 1114111 := Int.mul_le_mul_of_nonneg_left h1 (by omega)
  omega

theorem seg_drop {w : World} {vg i : Nat} {L : List Int} (a : Option Addr) (h : Seg w (some ⟨vg, 0, none⟩) vg 0 L.length (fun k => L.getD k 0)) (hi : i ≤ L.length) (ha : i < L.length → a = some ⟨vg, i, none⟩) : Seg w a vg i (L.length - i) (fun k => L.getD (i + k) 0) :=
  ⟨fun hn => ha (by omega), fun k hk => by have := h.cell (i + k) (by omega); rw [Nat.zero_add] at this; exact this⟩
theorem seg_take {w : World} {vg i : Nat} {L : List Int} (h : Seg w (some ⟨vg, 0, none⟩) vg 0 L.length (fun k => L.getD k 0)) (hi : i ≤ L.length) : Seg w (some ⟨vg, 0, none⟩) vg 0 i (fun k => L.getD k 0) :=
  ⟨fun _ => rfl, fun k hk => h.cell k (by omega)⟩
theorem oneI (w : World) (x : Int) : (w.alloc (.cells #[.int .i64 x] 3)).ownsRow w.heap.size 3 1 (.slice (some ⟨w.heap.size, 0, none⟩) 1 1) 1 (wl [x]) :=
  ⟨by simp [wl], .inr ⟨w.heap.size, 1, #[.int .i64 x], rfl, Nat.le_refl _, heap_alloc_new w _, Nat.le_refl _, by decide, rfl, by simp [wl]⟩⟩
theorem rk_cons (L : List Int) (i : Nat) (x : Int) (W : World) (B : Nat) (v : Value) (h : W.ownsRow B 3 1 v (1 + (L.length - i)) (wl [x] ++ ints (fun k => L.getD (i + k) 0) (L.length - i))) : W.ownsRow B 3 1 v (x :: L.drop i).length (wl (x :: L.drop i)) := by
  rw [ints_drop, ← wl_app] at h
  have e : (x :: L.drop i).length = 1 + (L.length - i) := by simp; omega
  rw [e]
  exact h
theorem rk_ins (L M : List Int) (i ml : Nat) (x : Int) (hi : i ≤ L.length) (hM : M = x :: L.drop i) (hml : M.length = ml) (W : World) (B : Nat) (v : Value) (h : W.ownsRow B 3 1 v (0 + i + ml) (wl [] ++ ints (fun k => L.getD k 0) i ++ ints (fun k => M.getD k 0) ml)) : W.ownsRow B 3 1 v (insL L i x).length (wl (insL L i x)) := by
  subst hml
  rw [ints_take L i hi, ← wl_ints M, hM] at h
  have e : (insL L i x).length = 0 + i + (x :: L.drop i).length := by rw [insL_len hi]; simp; omega
  rw [e]
  have e2 : wl (insL L i x) = wl [] ++ wl (L.take i) ++ wl (x :: L.drop i) := by rw [← wl_app, ← wl_app]; rfl
  rw [e2]
  exact h
theorem rk_t {T : Int} (h0 : 1 ≤ T) (h1 : T ≤ 26) : wrap64 (36 - T) = 36 - T := wr64 (by omega) (by omega)
theorem rk_ne2 {i n vc : Nat} (h : i < n) (h2 : n ≤ vc) : ¬ vc = i := by omega
theorem rk_ml (L : List Int) (i : Nat) (x : Int) : (x :: L.drop i).length = 1 + (L.length - i) := by simp; omega
theorem rk_ms2 {p q n : Nat} (h0 : p ≤ q) (h1 : q < n) : n - ((q : Int) + 1).toNat < n - ((p : Int)).toNat := by omega
theorem rk_i {n : Nat} (h : n ≤ 60) : (n : Int) ≤ 1000000000000000 := by omega
theorem rk_up (x : Int) : x ≤ x + 1 := by omega
theorem rk_i1 {i n : Nat} (h : (i : Int) ≤ (n : Int)) (h6 : n ≤ 60) : (i : Int) + 1 ≤ 1000000000000000 := by omega
theorem rk_rnd {L : List Int} {i p q : Nat} (x : Int) (hi : i ≤ L.length) (hp : L.length ≤ p) (hq : p < q) : (i : Int) + 1 ≤ ((insL L i x).length : Int) ∧ (insL L i x).length ≤ q := by
  rw [insL_len hi]; omega
theorem rk_pos (i : Nat) : (0 : Int) ≤ (i : Int) + 1 := by omega
theorem rk_ms {p q n : Nat} (h0 : p < q) (h1 : q ≤ n) : n - ((q : Int)).toNat < n - ((p : Int)).toNat := by omega
theorem rk_128 {a b : Int} (h : 128 ≤ a) (hb : 0 ≤ b) : 128 ≤ a + b := by omega
theorem rk_len6 {L : List Int} {n m : Nat} (h : L.length ≤ n) (h2 : n ≤ 60) (i : Nat) : 1 + (L.length - i) ≤ 1099511627776 := by omega
theorem rk_len7 {L : List Int} {i x : Nat} (h : L.length ≤ 60) (hi : i ≤ L.length) (hx : x = 1 + (L.length - i)) : 0 + i ≤ 1099511627776 ∧ 0 + i + x ≤ 1099511627776 := by omega

/-- Numbers of a round. -/
structure RdNums (L : List Int) (nn pl D : Int) : Prop where
  a0 : 0 ≤ pl + D ∧ pl + D ≤ 1000000000000000
  q : 0 ≤ (pl + D) / ((L.length : Int) + 1) ∧ (pl + D) / ((L.length : Int) + 1) ≤ 1000000000000000
  r : 0 ≤ (pl + D) % ((L.length : Int) + 1) ∧ (pl + D) % ((L.length : Int) + 1) ≤ (L.length : Int)
  n : 0 ≤ nn + (pl + D) / ((L.length : Int) + 1) ∧ nn + (pl + D) / ((L.length : Int) + 1) ≤ 1000000000000000
theorem rd_nums (L : List Int) {nn pl D : Int} (h0 : 0 ≤ pl) (h1 : pl ≤ 1000) (d0 : 0 ≤ D) (d1 : D ≤ 50000000000000) (n0 : 0 ≤ nn) (n1 : nn ≤ 1114111) : RdNums L nn pl D := by
  have m0 := Int.emod_nonneg (pl + D) (show (L.length : Int) + 1 ≠ 0 by omega)
  have m1 := Int.emod_lt_of_pos (pl + D) (show 0 < (L.length : Int) + 1 by omega)
  have k0 := Int.ediv_nonneg (show 0 ≤ pl + D by omega) (show 0 ≤ (L.length : Int) + 1 by omega)
  have k1 := Int.ediv_le_self ((L.length : Int) + 1) (show 0 ≤ pl + D by omega)
  exact ⟨⟨by omega, by omega⟩, ⟨k0, by omega⟩, ⟨m0, by omega⟩, ⟨by omega, by omega⟩⟩

set_option maxHeartbeats 12800000 in
set_option maxRecDepth 100000 in
theorem specReadPuny_any (s : ByteArray) (hs : s.size ≤ 1048576) (w : World) :
    Calls Try.prog 6 #[.string s] w fun e w' => GivesRp w (rpR s) e w' := by
  have HO1 := hide (emptyI w w (Ext.refl _))
  have HE1 := hide (Ext.alloc w (.cells #[] 3))
  by_cases h60 : s.size ≤ 60
  · have g60 : ¬ (60 : Int) < (s.size : Int) := by omega
    obtain ⟨mk0, mk1⟩ := mkL_ge s s.size
    have HM : Hid (∀ k : Nat, mkL s (k + 1) = if bt s k = 45 then (k : Int) else mkL s k) := fun k => rfl
    have HRR : Hid (rpR s = finO s (outM (fun i => (bt s i : Int)) s.size (mkL s s.size).toNat (s.size - rpS s + 1) (btl s (mkL s s.size).toNat) 128 0 72 (rpS s))) := by show _ = _; unfold rpR; rw [if_pos h60]
    have hst : ((rpS s : Nat) : Int) = mkL s s.size + 1 := by unfold rpS; omega
    generalize rpR s = R at *
    generalize rpS s = st at *
    have Hst := hide hst
    have Hmk := hide (And.intro mk0 mk1)
    clear hst mk0 mk1
    have HRN : Hid (R = none → ∀ W, Ext (w.alloc (.cells #[] 3)) W → GivesRp w R (.returned (.tuple #[.slice (some ⟨w.heap.size, 0, none⟩) 0 0, .bool false])) W) := by
      rintro rfl W hW
      exact ⟨_, rfl, iowns_ext' HO1.out hW, Ext.trans HE1.out hW⟩
    have HO2 := hide (emptyI (w.alloc (.cells #[] 3)) (w.alloc (.cells #[] 3)) (Ext.refl _))
    have HE2 := hide (Ext.alloc (w.alloc (.cells #[] 3)) (.cells #[] 3))
    have Hsz : Hid ((w.alloc (.cells #[] 3)).heap.size = w.heap.size + 1) := by show _ = _; simp
    have Hw1 : Hid (w.heap.size < (w.alloc (.cells #[] 3)).heap.size) := by show _ < _; simp
    go_enter Try.func6, Try.ntmps6
    go_wp2
    generalize w.alloc (.cells #[] 3) = w1 at *
    go_loop [6, 7] (fun lv i => ∃ k : Nat, k ≤ s.size ∧ i = .int .i64 (k : Int) ∧ lv = .int .i64 (mkL s k)) (fun _ i => s.size - (intOf i).toNat)
    case atStart => exact ⟨0, Nat.zero_le _, rfl, rfl⟩
    case round =>
      obtain ⟨k, hk, rfl, rfl⟩ := hrel
      by_cases hlt : k < s.size
      · have hkn : (k : Int) < (s.size : Int) := by omega
        have hc : ((s[k]'hlt).toNat : Int) = (bt s k : Int) := by rw [bt_get]
        have HX := hide (HM.out k)
        generalize mkL s k = x at *
        by_cases c : bt s k = 45
        · have c' : ((bt s k : Int) == 45) = true := by simp; omega
          have HY : Hid (mkL s (k + 1) = (k : Int)) := by show _ = _; rw [HX.out, if_pos c]
          clear HX
          go_wp2
          go_round
          case rel => exact ⟨k + 1, by omega, by go_num, by rw [HY.out]⟩
          case measure => simp [intOf]; omega
        · have c' : ((bt s k : Int) == 45) = false := by simp; omega
          have HY : Hid (mkL s (k + 1) = x) := by show _ = _; rw [HX.out, if_neg c]
          clear HX
          go_wp2
          go_round
          case rel => exact ⟨k + 1, by omega, by go_num, by rw [HY.out]⟩
          case measure => simp [intOf]; omega
      · obtain rfl : k = s.size := by omega
        generalize hmk : mkL s s.size = mk at *
        obtain ⟨m, hm⟩ : ∃ m : Nat, mk.toNat = m := ⟨_, rfl⟩
        rw [hm] at HRR
        have hms : m ≤ s.size := by have := Hmk.out; omega
        have hmst : m ≤ st := by have := Hmk.out; have := Hst.out; omega
        have hss : st ≤ s.size := by have := Hmk.out; have := Hst.out; omega
        have Hm : Hid (∀ j : Nat, ((j : Int) < mk ↔ j < m)) := fun j => by omega
        have hmk3 : wrap64 (mk + 1) = (st : Int) := by have := Hmk.out; have := Hst.out; unfold wrap64; omega
        clear hm Hmk Hst HM hmk
        obtain ⟨i0, hi, hz0, hz1, hz2⟩ := info_parts Try.info3
        go_wp2
        go_loopw [5, 8] (fun v i wr => ∃ k : Nat, k ≤ m ∧ i = .int .i64 (k : Int) ∧ wr.ownsRow w1.heap.size 3 1 v (btl s k).length (wl (btl s k)) ∧ v ≠ .slice none 0 0 ∧ Ext w1 wr) (fun _ i _ => m - (intOf i).toNat)
        case atStart =>
          refine ⟨0, Nat.zero_le _, rfl, ?_, by simp, HE2.out⟩
          have h := HO2.out
          rw [Hsz.out] at h ⊢
          exact h
        case round =>
          clear HO2 HE2
          obtain ⟨k, hk, rfl, hO, hnn, hE⟩ := hrel
          have Hnn := hide hnn
          clear hnn
          have HO := hide hO
          have HE := hide hE
          clear hO hE
          by_cases hlt2 : k < m
          · have hks : k < s.size := by omega
            have hkm : (k : Int) < mk := (Hm.out k).2 hlt2
            have hc : ((s[k]'hks).toNat : Int) = (bt s k : Int) := by rw [bt_get]
            have hw9 : wrap64 (bt s k : Int) = (bt s k : Int) := wr64 (by omega) (by have := bt_lt s k; omega)
            have HY := hide (btl_succ s k)
            have HLn : Hid ((btl s k).length = k) := btl_len s k
            generalize btl s k = L at *
            go_wp2_with (at_builtin; refine wpList_append_own _ rfl _ _ 22 rfl w1.heap.size 3 i0 (.int .i64 0) 1 8 Try.underlying22 hi hz0 hz1 hz2 rfl (by decide) _ _ _ rfl (HO.out.alloc _) ⟨wr.heap.size, 0, none⟩ 1 1 [.int .i64 (bt s k : Int)] rfl rfl (cell_one_new _ _ _) (wl_one [(bt s k : Int)]) (by have := HLn.out; unfold maxLen; omega) (by have := HLn.out; omega) (by have := Below.size HE.out; simp; omega) ?_; intro v' w3 hown' hgrow hnil)
            have HN := hide (wl_step HO.out HE.out (Nat.le_refl _) hown' hgrow)
            clear hown' hgrow hnil
            go_wp2
            go_roundw
            case rel => exact ⟨k + 1, by omega, by go_num, by rw [HY.out]; exact HN.out.1, ne_nil HN.out.1 (by simp), HN.out.2⟩
            case measure => simp [intOf]; omega
          · obtain rfl : k = m := by omega
            have hkm : ¬ (k : Int) < mk := fun h => hlt2 ((Hm.out k).1 h)
            obtain ⟨g0, cap0, rfl, -, hcap0, hcap1, -⟩ := own_some HO.out Hnn.out
            have HL0 := hide (btl_len s k)
            clear hcap0 hcap1 Hm
            generalize btl s k = L0 at *
            have HOs := hide HO.out
            have HEs := hide HE.out
            have hL0 : L0.length ≤ st := by rw [HL0.out]; exact hmst
            rw [← HL0.out] at HRR
            clear HO HE HL0
            go_wp2
            go_loopw [5, 10, 11, 12, 13] (fun v nv pv' bv av wr => ∃ (F : Nat) (L : List Int) (nn pl b : Int) (p : Nat), st ≤ p ∧ p ≤ s.size ∧ av = .int .i64 (p : Int) ∧ nv = .int .i64 nn ∧ pv' = .int .i64 pl ∧ bv = .int .i64 b ∧ 128 ≤ nn ∧ nn ≤ 1114111 ∧ 0 ≤ pl ∧ pl ≤ (L.length : Int) ∧ 0 ≤ b ∧ b ≤ 2000000000 ∧ L.length ≤ p ∧ s.size - p < F ∧ finO s (outM (fun i => (bt s i : Int)) s.size L0.length F L nn pl b p) = R ∧ wr.ownsRow w1.heap.size 3 1 v L.length (wl L) ∧ v ≠ .slice none 0 0 ∧ Ext w1 wr) (fun _ _ _ _ av _ => s.size - (intOf av).toNat)
            case atStart => exact ⟨s.size - st + 1, L0, 128, 0, 72, st, Nat.le_refl _, hss, rfl, rfl, rfl, rfl, by omega, by omega, by omega, by omega, by omega, by omega, hL0, by omega, HRR.out.symm, HOs.out, by simp, HEs.out⟩
            case round =>
              clear HOs HEs HRR hmk3
              obtain ⟨F, L, nn, pl, b, p, hp0, hp1, rfl, rfl, rfl, rfl, n0, n1, pl0, pl1, b0, b1, hLp, hF, hR, hO, hnn2, hE⟩ := hrel
              have HF := hide hF
              have HR := hide hR
              have HO := hide hO
              have HE := hide hE
              clear hF hR hO hE
              obtain ⟨vg, vc, rfl, hvg, hvc, hvc2, hOwn⟩ := own_some HO.out hnn2
              have HOwn := hide hOwn
              have Hvc := hide (And.intro hvg (And.intro hvc hvc2))
              clear hvg hvc hvc2 hOwn hnn2
              by_cases hpl : p < s.size
              · have hpn : (p : Int) < (s.size : Int) := by omega
                obtain ⟨R0, hR0⟩ : ∃ R0, rdM (fun i => (bt s i : Int)) s.size b pl (s.size - p + 1) p 36 0 1 = R0 := ⟨_, rfl⟩
                have HR0 := hide hR0
                have HNo : Hid (R0 = none → R = none) := fun h => by rw [← HR.out, outM_none HF.out hpl (hR0.trans h)]; rfl
                have HSo : Hid (∀ D q, R0 = some (D, q) → (0 ≤ D ∧ D ≤ 50000000000000 ∧ p < q ∧ q ≤ s.size) ∧ ∃ G, s.size - q < G ∧ R = finO s (if 1114111 < nn + (pl + D) / ((L.length : Int) + 1) ∨ 20 < (L.length : Int) + 1 then none else outM (fun i => (bt s i : Int)) s.size L0.length G (insL L ((pl + D) % ((L.length : Int) + 1)).toNat (nn + (pl + D) / ((L.length : Int) + 1))) (nn + (pl + D) / ((L.length : Int) + 1)) ((pl + D) % ((L.length : Int) + 1) + 1) (pbias D ((L.length : Int) + 1) ((L.length : Int) == (L0.length : Int))) q)) := by
                  intro D q h
                  obtain ⟨G, h1, h2⟩ := outM_some (L := L) (n := nn) (basic := L0.length) pl0 HF.out hpl (hR0.trans h)
                  have h3 := rdM_le pl0 _ _ _ _ _ PW.start (hR0.trans h)
                  exact ⟨h3, G, h1, by rw [← HR.out, h2]⟩
                clear hR0 HR HF
                have hl60 : L.length ≤ 60 := by omega
                have p60 : pl ≤ 60 := by omega
                go_wp2
                go_loop [11, 13, 15, 16] (fun pv' av wv kv => ∃ (F' p' : Nat) (D W k : Int), p ≤ p' ∧ p' ≤ s.size ∧ pv' = .int .i64 (pl + D) ∧ av = .int .i64 (p' : Int) ∧ wv = .int .i64 W ∧ kv = .int .i64 k ∧ 36 ≤ k ∧ k ≤ 36 * ((p' : Int) + 1) ∧ s.size - p' < F' ∧ PW D W ∧ D ≤ 39582418599936 ∧ W ≤ 38482906972160 ∧ rdM (fun i => (bt s i : Int)) s.size b pl F' p' k D W = R0) (fun _ av _ _ => s.size - (intOf av).toNat)
                case atStart => exact ⟨s.size - p + 1, p, 0, 1, 36, Nat.le_refl _, hp1, by rw [Int.add_zero], rfl, rfl, rfl, by omega, by omega, by omega, PW.start, by omega, by omega, HR0.out⟩
                case round =>
                  clear HR0
                  obtain ⟨F', p', D, W, k, hpp, hps, rfl, rfl, rfl, rfl, hk0, hk1, hF', hPW, hD, hW, hR'⟩ := hrel
                  have HR' := hide hR'
                  have HF' := hide hF'
                  have HPW := hide hPW
                  have Dd0 := hPW.d0
                  have Ww1 := hPW.w1
                  clear hR' hF' hPW
                  by_cases hq : p' < s.size
                  · have hqe : ((p' : Int) == (s.size : Int)) = false := by simp; omega
                    have hqn : (p' : Int) < (s.size : Int) := by omega
                    have hc : ((s[p']'hq).toNat : Int) = (bt s p' : Int) := by rw [bt_get]
                    have HPV := hide (fun W => l8PunyValue_any (bt s p' : Int) (by omega) (by have := bt_lt s p'; omega) W)
                    have v0 := pv_ge (bt s p' : Int)
                    have v1 := pv_lt (bt s p' : Int)
                    obtain ⟨d, hdd⟩ : ∃ d, pv (bt s p' : Int) = d := ⟨_, rfl⟩
                    rw [hdd] at HPV v0 v1
                    have HV := hide hdd
                    clear hdd
                    have a1 : wrap64 ((p' : Int) + 1) = (p' : Int) + 1 := wr64 (by omega) (by omega)
                    by_cases hd : d < 0
                    · have HN2 : Hid (R = none) := HNo.out (by rw [← HR'.out]; exact rdM_no (.inl (by rw [HV.out]; exact hd)))
                      have Hd0 : decide (d < 0) = true := decide_eq_true hd
                      clear hd v0 v1 HV HR' HPW HF' HSo HNo Dd0 Ww1 hD hW hk0 hk1 hpp hps n0 n1 pl0 pl1 b0 b1 hLp hp0 hp1 p60 hl60
                      have HN3 := hide g60
                      clear g60
                      go_wp2_with fail
                      refine (HPV.out _).mono ?_
                      rintro e w6 ⟨rfl, hw⟩
                      obtain rfl := hw.symm
                      clear hqe hqn hc HPV hw
                      go_wp2
                      go_ret2
                      exact HRN.out HN2.out _ HE.out
                    · by_cases hb1 : 1099511627776 < pl + D
                      · have HN2 : Hid (R = none) := HNo.out (by rw [← HR'.out]; exact rdM_no (.inr (.inl hb1)))
                        have Hd0 : decide (d < 0) = false := decide_eq_false hd
                        have Hb1 : decide (1099511627776 < pl + D) = true := decide_eq_true hb1
                        clear hd v0 v1 HV HR' HPW HF' HSo HNo Dd0 Ww1 hD hW hk0 hk1 hpp hps n0 n1 pl0 pl1 b0 b1 hLp hp0 hp1 p60 hl60 hb1
                        go_wp2_with (go_at_call 19; refine (HPV.out _).mono ?_; rintro e w6 ⟨rfl, hw⟩; obtain rfl := hw.symm)
                        go_ret2
                        exact HRN.out HN2.out _ HE.out
                      · by_cases hb2 : 1099511627776 < W
                        · have HN2 : Hid (R = none) := HNo.out (by rw [← HR'.out]; exact rdM_no (.inr (.inr hb2)))
                          have Hd0 : decide (d < 0) = false := decide_eq_false hd
                          have Hb1 : decide (1099511627776 < pl + D) = false := decide_eq_false hb1
                          have Hb2 : decide (1099511627776 < W) = true := decide_eq_true hb2
                          clear hd v0 v1 HV HR' HPW HF' HSo HNo Dd0 Ww1 hD hW hk0 hk1 hpp hps n0 n1 pl0 pl1 b0 b1 hLp hp0 hp1 p60 hl60 hb1 hb2
                          go_wp2_with (go_at_call 19; refine (HPV.out _).mono ?_; rintro e w6 ⟨rfl, hw⟩; obtain rfl := hw.symm)
                          go_ret2
                          exact HRN.out HN2.out _ HE.out
                        · have t1 := thr_ge k b
                          have t2 := thr_le k b
                          obtain ⟨s1, s2, s3⟩ := rdM_step HPW.out pl0 hb1 hb2 hd v1 t1 t2
                          have HTh := hide (fun W => l8Threshold_any k b (rk_k hk0 hk1 hps h60).1 (rk_k hk0 hk1 hps h60).2 b0 (Int.le_trans b1 (by decide)) W)
                          have hno : ¬ (d < 0 ∨ 1099511627776 < pl + D ∨ 1099511627776 < W) := fun h => h.elim hd (fun h => h.elim hb1 hb2)
                          have HL : Hid (d < thr k b → R0 = some (D + d * W, p' + 1)) := by
                            intro ht
                            rw [← HR'.out, rdM_last HF'.out hq (by rw [HV.out]; exact hno) (by rw [HV.out]; exact ht), HV.out]
                          have HMo : Hid (¬ d < thr k b → ∃ G, s.size - (p' + 1) < G ∧ R0 = rdM (fun i => (bt s i : Int)) s.size b pl G (p' + 1) (k + 36) (D + d * W) (W * (36 - thr k b)) ∧ PW (D + d * W) (W * (36 - thr k b))) := by
                            intro ht
                            obtain ⟨G, hG, he⟩ := rdM_more (g := fun i => (bt s i : Int)) (b := b) (old := pl) (k := k) (D := D) (W := W) HF'.out hq (by rw [HV.out]; exact hno) (by rw [HV.out]; exact ht)
                            rw [HV.out] at he
                            exact ⟨G, hG, by rw [← HR'.out]; exact he, HPW.out.next (Int.le_of_lt_add_one v1) t1 t2 ht⟩
                          generalize thr k b = T at *
                          clear HR' HPW HF' HV v0
                          obtain ⟨f1, f2⟩ : (0 ≤ pl + (D + d * W) ∧ pl + (D + d * W) ≤ 1000000000000000) ∧ (0 ≤ k + 36 ∧ k + 36 ≤ 1000000000000000) := rk_f pl0 p60 s2 hk0 hk1 hps h60
                          have a2 : wrap64 (pl + D + d * W) = pl + (D + d * W) := by rw [Int.add_assoc]; exact wr64 f1.1 f1.2
                          have a3 := wr64 s1.1 s1.2
                          have a4 := wr64 s3.1 (Int.le_trans s3.2 (by decide))
                          have a5 := wr64 f2.1 f2.2
                          by_cases ht : d < T
                          · have HS1 := hide (HSo.out _ _ (HL.out ht))
                            clear HL HMo HSo HNo f2 s3 a4 a5
                            obtain ⟨⟨e0, e1, q0, q1⟩, G, hG, hRR⟩ := HS1.out
                            have HG := hide hG
                            have HRR := hide hRR
                            clear HS1 hG hRR
                            obtain ⟨P, hP⟩ : ∃ P, d * W = P := ⟨_, rfl⟩
                            have a3' : wrap64 (d * W) = P := by rw [a3]; exact hP
                            clear a3 s1
                            rw [hP] at a2 HRR e0 e1 f1 s2
                            obtain ⟨Y, hY⟩ : ∃ Y, pl + (D + P) = Y := ⟨_, rfl⟩
                            rw [hY] at a2 HRR f1
                            obtain ⟨E, hEE⟩ : ∃ E, D + P = E := ⟨_, rfl⟩
                            rw [hEE] at HRR e0 e1 s2 hY
                            clear hP
                            have HY := hide hY
                            clear hY hEE
                            obtain ⟨N, hN⟩ : ∃ N, (L.length : Int) + 1 = N := ⟨_, rfl⟩
                            have hln : wrap64 ((L.length : Int) + 1) = N := by rw [← hN]; exact wr64 (Int.le_trans (by decide) (rk_len L).1) (Int.le_trans ((rk_len L).2 hl60) (by decide))
                            have u4 : wrap64 (Y - pl) = E := by rw [← HY.out, rk_sub]; exact wr64 e0 (Int.le_trans e1 (by decide))
                            have hnum := rd_nums L (nn := nn) pl0 (Int.le_trans p60 (by decide)) e0 e1 (Int.le_trans (by decide) n0) n1
                            have HBi := hide (fun W => l8Bias_any E ((L.length : Int) + 1) ((L.length : Int) == (L0.length : Int)) e0 (Int.le_trans e1 (by decide)) (rk_len L).1 ((rk_len L).2 hl60) W)
                            have hpb := hide (fun h => pbias_bound (d := E) (m := (L.length : Int) + 1) (b := ((L.length : Int) == (L0.length : Int))) e0 h (rk_len L).1)
                            have h30 : Hid (¬ (1114111 < nn + Y / N ∨ 20 < N) → E ≤ 30000000) := by
                              have := rk_small L (nn := nn) pl0 e0 n0
                              rw [HY.out, hN] at this
                              exact this
                            generalize pbias E ((L.length : Int) + 1) ((L.length : Int) == (L0.length : Int)) = b' at *
                            have u1 := hide hnum.a0
                            have u2 := wr64 hnum.q.1 hnum.q.2
                            have u3 := wr64 hnum.n.1 hnum.n.2
                            have hr1 := hnum.r.1
                            have hr2 := hnum.r.2
                            have hkk := hnum.q.1
                            have hY0 := hnum.a0.1
                            have t3' : (N == 0) = false := by rw [← hN]; exact rk_ne L
                            have t4' : ¬ N = 0 := fun h => by rw [h] at t3'; exact absurd t3' (by decide)
                            clear hnum u1
                            rw [HY.out, hN] at u2 u3 hr1 hr2 hkk
                            rw [HY.out] at hY0
                            rw [hN] at HRR HBi
                            have t1' : Y.tmod N = Y % N := Int.tmod_eq_emod_of_nonneg hY0
                            have t2' : Y.tdiv N = Y / N := Int.tdiv_eq_ediv_of_nonneg hY0
                            obtain ⟨i, hi'⟩ := Int.eq_ofNat_of_zero_le hr1
                            have hiL : i ≤ L.length := by rw [hi'] at hr2; exact Int.ofNat_le.1 hr2
                            rw [hi'] at t1' HRR
                            rw [Int.toNat_natCast] at HRR
                            generalize Y / N = kk at *
                            obtain ⟨n2, hn2⟩ : ∃ n2, nn + kk = n2 := ⟨_, rfl⟩
                            rw [hn2] at u3 HRR h30
                            have u3' : wrap64 (nn + kk) = n2 := by rw [hn2]; exact u3
                            clear u3 hi' hr1 hr2
                            have Hn2 := hide hn2
                            have HN' := hide hN
                            have hkk' := hide hkk
                            have hI1 : (0 : Int) ≤ (i : Int) := Int.natCast_nonneg i
                            have hI2 : (i : Int) ≤ (L.length : Int) := Int.ofNat_le.2 hiL
                            have u5 := wr64 hI1 (Int.le_trans hI2 (rk_i hl60))
                            have u6 := wr64 (x := (i : Int) + 1) (Int.le_trans hI1 (rk_up _)) (rk_i1 hI2 hl60)
                            have Hi := hide hiL
                            have Hl6 := hide hl60
                            have Hn := hide n0
                            have HLp := hide hLp
                            have Hpp := hide (And.intro hpp hps)
                            have Hp0 := hide (And.intro hp0 hp1)
                            clear hn2 hN hkk hI1 hI2 hiL hl60 f1 s2 e0 e1 q0 q1 n0 n1 pl0 pl1 b0 b1 hpp hps p60 hD hW hp0 hp1 hLp t1 t2 Dd0 Ww1 hk0 hk1 hno v1 hY0
                            have Hd0 : decide (d < 0) = false := decide_eq_false hd
                            have Hb1 : decide (1099511627776 < pl + D) = false := decide_eq_false hb1
                            have Hb2 : decide (1099511627776 < W) = false := decide_eq_false hb2
                            have HdT : decide (d < T) = true := decide_eq_true ht
                            clear hd hb1 hb2 ht
                            go_wp2_with fail
                            refine (HPV.out _).mono ?_
                            rintro e w6 ⟨rfl, hw⟩
                            obtain rfl := hw.symm
                            have Hq := hide hq
                            clear hqe hqn hc HPV hw hq
                            go_wp2_with fail
                            refine (HTh.out _).mono ?_
                            rintro e w7 ⟨rfl, hw⟩
                            obtain rfl := hw.symm
                            clear hw HTh
                            go_wp2_with fail
                            refine (HBi.out _).mono ?_
                            rintro e w8 ⟨rfl, hw⟩
                            obtain rfl := hw.symm
                            clear hw HBi Hd0 Hb1 Hb2 HdT u4
                            by_cases hb3 : 1114111 < n2
                            · have HN2 : Hid (R = none) := by show _ = _; rw [HRR.out, if_pos (.inl hb3)]; rfl
                              have hb3' : decide (1114111 < n2) = true := decide_eq_true hb3
                              clear hb3 HRR
                              go_wp2
                              go_ret2
                              exact HRN.out HN2.out _ HE.out
                            · have hb3' : decide (1114111 < n2) = false := decide_eq_false hb3
                              by_cases hb4 : 20 < N
                              · have HN2 : Hid (R = none) := by show _ = _; rw [HRR.out, if_pos (.inr hb4)]; rfl
                                have hb4' : decide (20 < N) = true := decide_eq_true hb4
                                clear hb3 hb4 HRR
                                go_wp2
                                go_ret2
                                exact HRN.out HN2.out _ HE.out
                              · have hb4' : decide (20 < N) = false := decide_eq_false hb4
                                have hbad : ¬ (1114111 < n2 ∨ 20 < N) := fun h => h.elim hb3 hb4
                                have HRR2 : Hid (R = finO s (outM (fun i => (bt s i : Int)) s.size L0.length G (insL L i n2) n2 ((i : Int) + 1) b' (p' + 1))) := by show _ = _; rw [HRR.out, if_neg hbad]
                                have hpb2 := hide (hpb.out (h30.out hbad))
                                have Hn1 : Hid (n2 ≤ 1114111) := Int.not_lt.1 hb3
                                clear hbad HRR hpb h30 hb3 hb4
                                obtain ⟨hvg, hvc, hvc2⟩ := Hvc.out
                                have hiL := Hi.out
                                have HO1' := hide (oneI wr n2)
                                have HA1 := hide (Ext.alloc wr (.cells #[.int .i64 n2] 3))
                                have HS0 := hide (HOwn.out.toSeg.of_all HA1.out)
                                obtain ⟨ad, had, hslc⟩ : ∃ ad : Addr, (i < L.length → ad = ⟨vg, i, none⟩) ∧ (if vc = i then (⟨vg, 0, none⟩ : Addr) else ⟨vg, i, none⟩) = ad := ⟨_, fun h => if_neg (rk_ne2 h hvc), rfl⟩
                                have HS1 := hide (seg_drop (some ad) HS0.out hiL (fun h => by rw [had h]))
                                have Hl1 := hide (rk_len6 (m := 0) (Nat.le_refl L.length) Hl6.out i)
                                clear HS0 had
                                by_cases hvi : vc = i
                                · rw [if_pos hvi] at hslc
                                  subst hslc
                                  have hvi2 := hvi.symm
                                  clear hvi
                                  subst hvi2
                                  clear hvc
                                  go_wp2_with (at_builtin; refine Hid.out ?_)
                                  refine hide ?_
                                  refine wpList_append_is rfl _ _ rfl wr.heap.size _ 1 (wl [n2]) rfl HO1'.out _ vg i (L.length - i) _ (fun k => L.getD (i + k) 0) rfl HS1.out Hl1.out (by simp) ?_
                                  refine fun v1 w8 hO8 hB8 => ?_
                                  have HO8 := hide (rk_cons L i n2 _ _ _ hO8)
                                  have HE8 := hide (Below.trans HA1.out hB8)
                                  clear hO8 hB8 HO1' HA1 HS1
                                  have Hu6 := hide u6
                                  have Hu3 := hide u3'
                                  clear u2 u3' t1' t2' t3' t4' a1 a2 a3' hln hb3' hb4' u5 u6 hvc2 hvg 
                                  have HM : Hid ((n2 :: L.drop i).length = 1 + (L.length - i)) := rk_ml L i n2
                                  obtain ⟨M, hM⟩ : ∃ M, M = n2 :: L.drop i := ⟨_, rfl⟩
                                  rw [← hM] at HO8 HM
                                  have HMM := hide hM
                                  clear hM
                                  obtain ⟨a1, g1, cap1, rfl, hg1, -, -, hOw1⟩ := own_of_wl HO8.out
                                  clear hg1
                                  obtain ⟨ml, hml⟩ : ∃ ml, M.length = ml := ⟨_, rfl⟩
                                  rw [hml] at hOw1 HM ⊢
                                  have HOw1 := hide hOw1
                                  have Hml := hide hml
                                  have HO2' := hide (emptyI w8 w8 (Ext.refl _))
                                  have HA2 := hide (Ext.alloc w8 (.cells #[] 3))
                                  have HT0 := hide (seg_take ((HOwn.out.toSeg.of_all HE8.out).of_all HA2.out) hiL)
                                  have Hl7 := hide (rk_len7 Hl6.out hiL HM.out)
                                  clear hOw1 hml HO8
                                  go_wp2_with (at_builtin; refine Hid.out ?_)
                                  refine hide ?_
                                  refine wpList_append_is rfl _ _ rfl w8.heap.size _ 0 (wl []) rfl HO2'.out _ vg 0 i _ (fun k => L.getD k 0) rfl HT0.out Hl7.out.1 (by simp) ?_
                                  refine fun v2 w9 hO9 hB9 => ?_
                                  have HO9 := hide hO9
                                  have HE9 := hide (Below.trans HA2.out hB9)
                                  clear hO9 hB9 HO2' HA2 HT0
                                  have HS9 := hide (HOw1.out.toSeg.of_all HE9.out)
                                  go_wp2_with (at_builtin; refine Hid.out ?_)
                                  refine hide ?_
                                  refine wpList_append_is rfl _ _ rfl w8.heap.size _ (0 + i) _ rfl HO9.out _ g1 0 ml _ (fun k => M.getD k 0) rfl HS9.out Hl7.out.2 (Below.size HE9.out) ?_
                                  refine fun v3 w10 hO10 hB10 => ?_
                                  have HO10 := hide (rk_ins L M i ml n2 hiL HMM.out Hml.out _ _ _ hO10)
                                  have HE10 := hide (Ext.trans HE.out (Ext.trans HE8.out (Below.trans HE9.out hB10)))
                                  have HZ := hide (Nat.le_trans (Below.size HE.out) (Below.size HE8.out))
                                  clear hO10 hB10 HO9 HS9
                                  have u6 := Hu6.out
                                  go_wp2
                                  go_roundw
                                  case rel => exact ⟨G, insL L i n2, n2, (i : Int) + 1, b', p' + 1, Nat.le_trans Hp0.out.1 (Nat.le_trans Hpp.out.1 (Nat.le_succ _)), Hq.out, rfl, (by rw [Hu3.out]), (by rw [Hu6.out]), rfl, (by rw [← Hn2.out]; exact rk_128 Hn.out hkk'.out), Hn1.out, rk_pos i, (rk_rnd n2 hiL HLp.out (Nat.lt_succ_of_le Hpp.out.1)).1, hpb2.out.1, hpb2.out.2, (rk_rnd n2 hiL HLp.out (Nat.lt_succ_of_le Hpp.out.1)).2, HG.out, HRR2.out.symm, iowns_mono HO10.out HZ.out, ne_nil HO10.out (by rw [insL_len hiL]; exact Nat.succ_pos _), HE10.out⟩
                                  case measure =>
                                    simp only [intOf]
                                    exact rk_ms2 Hpp.out.1 Hq.out
                                · have hvi' : ¬ i = vc := fun h => hvi h.symm
                                  have hivc : i ≤ vc := Nat.le_trans hiL hvc
                                  rw [if_neg hvi] at hslc
                                  subst hslc
                                  go_wp2_with (at_builtin; refine Hid.out ?_)
                                  refine hide ?_
                                  refine wpList_append_is rfl _ _ rfl wr.heap.size _ 1 (wl [n2]) rfl HO1'.out _ vg i (L.length - i) _ (fun k => L.getD (i + k) 0) rfl HS1.out Hl1.out (by simp) ?_
                                  refine fun v1 w8 hO8 hB8 => ?_
                                  have HO8 := hide (rk_cons L i n2 _ _ _ hO8)
                                  have HE8 := hide (Below.trans HA1.out hB8)
                                  clear hO8 hB8 HO1' HA1 HS1
                                  have Hu6 := hide u6
                                  have Hu3 := hide u3'
                                  clear u2 u3' t1' t2' t3' t4' a1 a2 a3' hln hb3' hb4' u5 u6 hvc2 hvg hvc
                                  have HM : Hid ((n2 :: L.drop i).length = 1 + (L.length - i)) := rk_ml L i n2
                                  obtain ⟨M, hM⟩ : ∃ M, M = n2 :: L.drop i := ⟨_, rfl⟩
                                  rw [← hM] at HO8 HM
                                  have HMM := hide hM
                                  clear hM
                                  obtain ⟨a1, g1, cap1, rfl, hg1, -, -, hOw1⟩ := own_of_wl HO8.out
                                  clear hg1
                                  obtain ⟨ml, hml⟩ : ∃ ml, M.length = ml := ⟨_, rfl⟩
                                  rw [hml] at hOw1 HM ⊢
                                  have HOw1 := hide hOw1
                                  have Hml := hide hml
                                  have HO2' := hide (emptyI w8 w8 (Ext.refl _))
                                  have HA2 := hide (Ext.alloc w8 (.cells #[] 3))
                                  have HT0 := hide (seg_take ((HOwn.out.toSeg.of_all HE8.out).of_all HA2.out) hiL)
                                  have Hl7 := hide (rk_len7 Hl6.out hiL HM.out)
                                  clear hOw1 hml HO8
                                  go_wp2_with (at_builtin; refine Hid.out ?_)
                                  refine hide ?_
                                  refine wpList_append_is rfl _ _ rfl w8.heap.size _ 0 (wl []) rfl HO2'.out _ vg 0 i _ (fun k => L.getD k 0) rfl HT0.out Hl7.out.1 (by simp) ?_
                                  refine fun v2 w9 hO9 hB9 => ?_
                                  have HO9 := hide hO9
                                  have HE9 := hide (Below.trans HA2.out hB9)
                                  clear hO9 hB9 HO2' HA2 HT0
                                  have HS9 := hide (HOw1.out.toSeg.of_all HE9.out)
                                  go_wp2_with (at_builtin; refine Hid.out ?_)
                                  refine hide ?_
                                  refine wpList_append_is rfl _ _ rfl w8.heap.size _ (0 + i) _ rfl HO9.out _ g1 0 ml _ (fun k => M.getD k 0) rfl HS9.out Hl7.out.2 (Below.size HE9.out) ?_
                                  refine fun v3 w10 hO10 hB10 => ?_
                                  have HO10 := hide (rk_ins L M i ml n2 hiL HMM.out Hml.out _ _ _ hO10)
                                  have HE10 := hide (Ext.trans HE.out (Ext.trans HE8.out (Below.trans HE9.out hB10)))
                                  have HZ := hide (Nat.le_trans (Below.size HE.out) (Below.size HE8.out))
                                  clear hO10 hB10 HO9 HS9
                                  have u6 := Hu6.out
                                  go_wp2
                                  go_roundw
                                  case rel => exact ⟨G, insL L i n2, n2, (i : Int) + 1, b', p' + 1, Nat.le_trans Hp0.out.1 (Nat.le_trans Hpp.out.1 (Nat.le_succ _)), Hq.out, rfl, (by rw [Hu3.out]), (by rw [Hu6.out]), rfl, (by rw [← Hn2.out]; exact rk_128 Hn.out hkk'.out), Hn1.out, rk_pos i, (rk_rnd n2 hiL HLp.out (Nat.lt_succ_of_le Hpp.out.1)).1, hpb2.out.1, hpb2.out.2, (rk_rnd n2 hiL HLp.out (Nat.lt_succ_of_le Hpp.out.1)).2, HG.out, HRR2.out.symm, iowns_mono HO10.out HZ.out, ne_nil HO10.out (by rw [insL_len hiL]; exact Nat.succ_pos _), HE10.out⟩
                                  case measure =>
                                    simp only [intOf]
                                    exact rk_ms2 Hpp.out.1 Hq.out
                          · obtain ⟨G, hG, he, hpw⟩ := HMo.out ht
                            have HG := hide hG
                            have Hee := hide he
                            have Hpw := hide hpw
                            clear HL HMo hG he hpw f1 f2
                            have Hd0 : decide (d < 0) = false := decide_eq_false hd
                            have Hb1 : decide (1099511627776 < pl + D) = false := decide_eq_false hb1
                            have Hb2 : decide (1099511627776 < W) = false := decide_eq_false hb2
                            have HdT : decide (d < T) = false := decide_eq_false ht
                            have Hq := hide hq
                            have Hpp := hide hpp
                            have Hkk := hide (rk_next hk0 hk1)
                            have Hs2 := hide s2
                            have Hs3 := hide s3
                            have Ha2 := hide a2
                            have Ha4 := hide a4
                            have Ha5 := hide a5
                            have Ha6 := hide (rk_t t1 t2)
                            clear hd hb1 hb2 ht hno v1 s1 s2 s3 t1 t2 Dd0 Ww1 hD hW hk0 hk1 hpp hps n0 n1 pl0 pl1 b0 b1 hLp hp0 hp1 p60 hl60 HSo HNo
                            go_wp2_with fail
                            refine (HPV.out _).mono ?_
                            rintro e w6 ⟨rfl, hw⟩
                            obtain rfl := hw.symm
                            clear hqe hqn hc HPV hw hq
                            go_wp2_with fail
                            refine (HTh.out _).mono ?_
                            rintro e w7 ⟨rfl, hw⟩
                            obtain rfl := hw.symm
                            clear hw HTh
                            go_wp2_with fail
                            go_round
                            case rel =>
                              refine ⟨G, p' + 1, D + d * W, W * (36 - T), k + 36, ?_, ?_, by first | rfl | rw [Ha2.out] | rw [Int.add_assoc], by first | rfl | (rw [a1]; rfl), by first | rfl | rw [Ha6.out, Ha4.out], by first | rfl | rw [Ha5.out], ?_, ?_, HG.out, Hpw.out, Hs2.out.2, Hs3.out.2, Hee.out.symm⟩
                              · exact Nat.le_succ_of_le Hpp.out
                              · exact Hq.out
                              · exact Hkk.out.1
                              · exact Hkk.out.2
                            case measure =>
                              simp only [intOf]
                              exact rk_less Hq.out
                  · have hqe : ((p' : Int) == (s.size : Int)) = true := by simp; omega
                    have HN2 : Hid (R = none) := HNo.out (by rw [← HR'.out]; exact rdM_end hq)
                    go_wp2
                    go_ret2
                    exact HRN.out HN2.out _ HE.out
              · obtain rfl : p = s.size := by omega
                have hpn : ¬ ((s.size : Nat) : Int) < (s.size : Int) := by omega
                have HN : Hid (R = if (wordB L.length (fun i => L.getD i 0) && eqS (punyS L.length (fun i => L.getD i 0)) s) = true then some L else none) := by show _ = _; rw [← HR.out, outM_end HF.out hpl, finO_some]
                have HPu := hide (specPuny_any (some ⟨vg, 0, none⟩) vg 0 L.length vc (fun i => L.getD i 0) wr HOwn.out.toSeg (by omega))
                clear HR HF
                generalize wordB L.length (fun i => L.getD i 0) = wb at *
                generalize punyS L.length (fun i => L.getD i 0) = S at *
                cases wb
                · have HN2 : Hid (R = none) := HN.out
                  clear HN
                  go_wp2_with (go_at_call 14; refine HPu.out.mono ?_; rintro e w6 ⟨rfl, hE6⟩; have HE6 := hide (Ext.trans HE.out hE6); clear hE6)
                  go_ret2
                  exact HRN.out HN2.out _ HE6.out
                · cases hq : eqS S s
                  · have HN2 : Hid (R = none) := by show _ = _; rw [HN.out, hq]; rfl
                    have hq2 : (S.toList == s.toList) = false := hq
                    clear HN hq
                    go_wp2_with (go_at_call 14; refine HPu.out.mono ?_; rintro e w6 ⟨rfl, hE6⟩; have HE6 := hide (Ext.trans HE.out hE6); clear hE6)
                    go_ret2
                    exact HRN.out HN2.out _ HE6.out
                  · have HN2 : Hid (R = some L) := by show _ = _; rw [HN.out, hq]; rfl
                    have hq2 : (S.toList == s.toList) = true := hq
                    clear HN hq
                    go_wp2_with (go_at_call 14; refine HPu.out.mono ?_; rintro e w6 ⟨rfl, hE6⟩; have HE6 := hide (Ext.trans HE.out hE6); have HO6 := hide (iowns_ext' HO.out hE6); clear hE6)
                    go_ret2
                    refine ⟨_, by rw [HN2.out]; rfl, ?_, Ext.trans HE1.out HE6.out⟩
                    rw [HN2.out]
                    exact iowns_mono HO6.out (Nat.le_of_lt Hw1.out)
  · have g60 : (60 : Int) < (s.size : Int) := by omega
    have HN : Hid (rpR s = none) := by show _ = _; unfold rpR; rw [if_neg h60]
    go_enter Try.func6, Try.ntmps6
    go_wp2
    go_ret2
    refine ⟨_, by rw [HN.out]; rfl, ?_, Ext.alloc _ _⟩
    rw [HN.out]
    exact HO1.out

end Go.Proofs.Ytjpdllhhganbpaa
