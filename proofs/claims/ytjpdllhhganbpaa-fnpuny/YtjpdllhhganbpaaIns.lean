/- slices.Insert of one number into a list of ints of one's own (out of the shelf's contracts). -/
import Derived.Test.YtjpdllhhganbpaaICat
import Derived.Test.YtjpdllhhganbpaaChecked
import Derived.Shelf.Spec.SlicesInsertGrow
namespace Go.Proofs.Ytjpdllhhganbpaa
set_option linter.unusedVariables false
set_option linter.unusedSimpArgs false
open Go.RowKit Go.Shelf Go.Lib

/-- Numbers as cells. -/
def wl (L : List Int) : List Value := L.map (.int .i64)
theorem wl_len (L : List Int) : (wl L).length = L.length := by simp [wl]
theorem wl_ints (L : List Int) : wl L = ints (fun i => L.getD i 0) L.length := by
  unfold wl ints
  apply List.ext_getElem
  · simp
  · intro i h1 h2
    simp at h1
    simp [h1]
theorem wl_one (L : List Int) : ∀ u ∈ wl L, u.oneCell' = true := by
  intro u hu
  obtain ⟨x, -, rfl⟩ := List.mem_map.1 hu
  rfl

def insRen : Ren := ⟨fun | 21 => 27 | 27 => 46 | 28 => 47 | 35 => 53 | 39 => 54 | n => n, fun | 0 => 0 | 3 => 3 | 4 => 4 | 22 => 22 | n => n, fun | n => n⟩
theorem insLays : Lays2.n21 Try.prog insRen := {
  mixed := by kernel_rfl
  f21 := Try.func27.trans (congrArg some (by kernel_rfl))
  f27 := Try.func46.trans (congrArg some (by kernel_rfl))
  f28 := Try.func47.trans (congrArg some (by kernel_rfl))
  f35 := Try.func53.trans (congrArg some (by kernel_rfl))
  f39 := Try.func54.trans (congrArg some (by kernel_rfl))
  t0 := Try.underlying0
  a0 := Try.isAgg0
  z0 := Try.sizeOf0
  v0 := Try.zeroValue0
  t3 := Try.underlying3
  a3 := Try.isAgg3
  z3 := Try.sizeOf3
  v3 := Try.zeroValue3
  t4 := Try.underlying4
  a4 := Try.isAgg4
  z4 := Try.sizeOf4
  v4 := Try.zeroValue4
  t22 := Try.underlying22
  a22 := Try.isAgg22
  z22 := Try.sizeOf22
  v22 := Try.zeroValue22
  i3 := Try.info3 }

/-- Several cells set. -/
def setsL : List Value → Nat → List Value → List Value
  | xs, _, [] => xs
  | xs, o, v :: r => setsL (xs.set o v) (o + 1) r
theorem setsL_is : ∀ (vs xs : List Value) (o : Nat), o + vs.length ≤ xs.length → setsL xs o vs = xs.take o ++ vs ++ xs.drop (o + vs.length)
  | [], xs, o, h => by simp [setsL]
  | v :: r, xs, o, h => by
    simp only [List.length_cons] at h
    rw [setsL, setsL_is r (xs.set o v) (o + 1) (by simp; omega), List.take_succ_eq_append_getElem (by simp; omega), List.getElem_set_self, List.take_set_of_le (Nat.le_refl _), List.drop_set_of_lt (by omega)]
    simp [Nat.add_assoc, Nat.add_comm 1]
theorem ownsI_sets {B g n cap : Nat} : ∀ (vs xs : List Value) (o : Nat) (w : World), w.ownsRow B 3 1 (.slice (some ⟨g, 0, none⟩) n cap) n xs → (w.setCells g o vs).ownsRow B 3 1 (.slice (some ⟨g, 0, none⟩) n cap) n (setsL xs o vs)
  | [], xs, o, w, h => h
  | v :: r, xs, o, w, h => ownsI_sets r _ (o + 1) _ (World.ownsRow.stored h o v).1
theorem touch_sets (g : Nat) : ∀ (vs : List Value) (o : Nat) (w wr : World), Touch g w wr → Touch g w (wr.setCells g o vs)
  | [], o, w, wr, h => h
  | v :: r, o, w, wr, h => touch_sets g r (o + 1) w _ (h.set o v)
theorem ownsI_drew {B : Nat} {w : World} {v : Value} {n : Nat} {xs : List Value} (h : w.ownsRow B 3 1 v n xs) : w.drew.ownsRow B 3 1 v n xs := h
theorem below_drew1 {B : Nat} {a w : World} (h : Below B a w) : Below B a w.drew := h.trans ⟨rfl, rfl, rfl, Nat.le_refl _, fun _ _ => rfl⟩

/-- A number put into a list. -/
def insL (L : List Int) (i : Nat) (x : Int) : List Int := L.take i ++ x :: L.drop i
theorem insL_len {L : List Int} {i : Nat} (h : i ≤ L.length) (x : Int) : (insL L i x).length = L.length + 1 := by
  simp [insL]; omega
theorem wl_ins (L : List Int) (i : Nat) (x : Int) : wl (insL L i x) = (wl L).take i ++ .int .i64 x :: (wl L).drop i := by
  simp [wl, insL, List.map_take, List.map_drop]

theorem grown_ext {w w' : World} (h : Ext w w') (o : Option Nat) : w.grownBy w' o := ⟨h.os, h.tape, h.output, h.size, fun k hk _ => h.block k hk⟩
theorem grown_touch {w a b : World} {g : Nat} (h : Ext w a) (t : Touch g a b) : w.grownBy b (some g) :=
  ⟨t.grown.os.trans h.os, t.grown.tape.trans h.tape, t.grown.output.trans h.output, Nat.le_trans h.size t.grown.size, fun k hk hne => (t.grown.block k (Nat.lt_of_lt_of_le hk h.size) hne).trans (h.block k hk)⟩

theorem zc_len (k : Nat) : (Builtin.zeroCells (Value.int .i64 0).cells k).size = k := by simp [Builtin.zeroCells, Value.cells]

set_option maxHeartbeats 1600000 in
theorem insert_any (B : Nat) (L : List Int) (i : Nat) (x : Int) (v : Value) (w : World) (hO : w.ownsRow B 3 1 v L.length (wl L)) (hB : B ≤ w.heap.size) (hi : i ≤ L.length) (hl : L.length ≤ 1000) :
    Calls Try.prog 27 #[v, .int .i64 (i : Int), .slice (some ⟨w.heap.size, 0, none⟩) 1 1] (w.alloc (.cells #[.int .i64 x] 3)) fun e w' => ∃ v', e = .returned v' ∧ w'.ownsRow B 3 1 v' (L.length + 1) (wl (insL L i x)) ∧ w.grownBy w' v.ownBlock := by
  have hA : Ext w (w.alloc (.cells #[.int .i64 x] 3)) := Ext.alloc _ _
  have hvs : ∀ j u, [Value.int .i64 x][j]? = some u → (w.alloc (.cells #[.int .i64 x] 3)).cell? ⟨w.heap.size, 0 + j, none⟩ = some u := fun j u hj => by
    rw [World.cell?_alloc_at (w := w) #[.int .i64 x] _ w.heap.size (0 + j) rfl]
    simpa using hj
  have h1v : ∀ u ∈ [Value.int .i64 x], u.oneCell' = true := by
    intro u hu
    simp at hu
    subst hu
    rfl
  have hml : ∀ k, k ≤ 1001 → k ≤ maxLen := fun k hk => by unfold maxLen; omega
  rcases hO.2 with ⟨rfl, h0⟩ | ⟨g, cap, cur, rfl, hg0, hg, hnc, hcm, hcs, htk⟩
  · -- the nil list
    obtain rfl : L = [] := List.length_eq_zero_iff.1 h0
    obtain rfl : i = 0 := by simpa using hi
    refine (Any2.slices_Insert_int_end_grow insLays none 0 0 w.heap.size 0 1 1 [] [.int .i64 x] _ (by omega) (Nat.le_refl _) (by omega) (by omega) rfl rfl (fun _ => rfl) (fun a h => by cases h) hvs h1v).mono ?_
    rintro e w' ⟨rfl, rfl⟩
    have hG := grownCap_ge (w.alloc (.cells #[.int .i64 x] 3)) (0 + 1) 0 (insRen.t 3)
    have hG2 := grownCap_le_maxLen (w.alloc (.cells #[.int .i64 x] 3)) (0 + 1) 0 (insRen.t 3) (hml _ (by omega))
    generalize grownCap (w.alloc (.cells #[.int .i64 x] 3)) (0 + 1) 0 (insRen.t 3) = G at *
    refine ⟨_, rfl, ⟨by simp [wl, insL], .inr ⟨_, G, _, rfl, by simp; omega, heap_alloc_new _ _, hG, hG2, ?_, ?_⟩⟩, ?_⟩
    · simp [zc_len]; omega
    · simp [wl, insL]
    · exact grown_ext ((below_drew1 hA).alloc (by simp [World.drew]) _) _
  · have hcl : cur.toList.length = cap := by simp [hcs]
    have hlt : g < w.heap.size := (Array.getElem?_eq_some_iff.1 hg).1
    have hg1 : (w.alloc (.cells #[.int .i64 x] 3)).heap[g]? = some (.cells cur 3 (0, 0)) := by
      rw [Below.block (Below.alloc (Below.refl w.heap.size w) (Nat.le_refl _) _) g hlt]; exact hg
    have hO1 : (w.alloc (.cells #[.int .i64 x] 3)).ownsRow B 3 1 (.slice (some ⟨g, 0, none⟩) L.length cap) L.length (wl L) := ⟨hO.1, .inr ⟨g, cap, cur, rfl, hg0, hg1, hnc, hcm, hcs, htk⟩⟩
    have hc63 : cap ≤ 9223372036854775807 := by unfold maxLen at hcm; omega
    have hfz : ∀ j, (w.alloc (.cells #[.int .i64 x] 3)).frozen? ⟨g, j, none⟩ = false := fun j => World.ownsRow.frozenAt hO1 j
    have hce : ∀ j u, (wl L)[j]? = some u → (w.alloc (.cells #[.int .i64 x] 3)).cell? ⟨g, 0 + j, none⟩ = some u := fun j u hj => by
      have hjl : j < L.length := by have := (List.getElem?_eq_some_iff.1 hj).1; rwa [wl_len] at this
      rw [Nat.zero_add, World.ownsRow.cellAt hO1 j (by omega)]
      exact hj
    have hex : ∀ j, j < cap → ((w.alloc (.cells #[.int .i64 x] 3)).cell? ⟨g, 0 + j, none⟩).isSome = true := fun j hj => by
      rw [Nat.zero_add]
      have hb : (w.alloc (.cells #[.int .i64 x] 3)).ownsRow B 3 1 (.slice (some ⟨g, 0, none⟩) cap cap) cap cur.toList := ⟨by simp [hcs], .inr ⟨g, cap, cur, rfl, hg0, hg1, Nat.le_refl _, hcm, hcs, by rw [Nat.mul_one, ← hcl, List.take_length]⟩⟩
      rw [World.ownsRow.cellAt hb j (by omega), List.getElem?_eq_getElem (by omega)]
      rfl
    by_cases hr : L.length + 1 ≤ cap
    · -- there is room
      have hR : (w.alloc (.cells #[.int .i64 x] 3)).ownsRow B 3 1 (.slice (some ⟨g, 0, none⟩) (L.length + 1) cap) (L.length + 1) (cur.toList.take (L.length + 1)) := ⟨by simp [hcs]; omega, .inr ⟨g, cap, cur, rfl, hg0, hg1, hr, hcm, hcs, by rw [Nat.mul_one]⟩⟩
      have htl : (cur.toList.take (L.length + 1)).take L.length = wl L := by
        rw [List.take_take, Nat.min_eq_left (by omega), ← htk, Nat.mul_one]
      have htn : (cur.toList.take (L.length + 1)).length = L.length + 1 := by rw [List.length_take]; omega
      generalize cur.toList.take (L.length + 1) = xs at *
      by_cases he : i = L.length
      · subst he
        refine (Any2.slices_Insert_int_end_room insLays g 0 L.length cap w.heap.size 0 1 1 [.int .i64 x] _ (by omega) hr hc63 rfl (fun j hj => by rw [show 0 + L.length + j = 0 + (L.length + j) by omega]; exact hex _ (by omega)) (fun j hj => hfz _) hvs h1v).mono ?_
        rintro e w' ⟨rfl, rfl⟩
        refine ⟨_, rfl, ?_, grown_touch hA (touch_sets g _ _ _ _ (Touch.refl g _))⟩
        have := ownsI_sets [.int .i64 x] xs (0 + L.length) _ hR
        rw [setsL_is _ _ _ (by simp; omega), Nat.zero_add, htl, List.drop_eq_nil_of_le (by simp; omega), List.append_nil] at this
        rw [Nat.zero_add, wl_ins, List.drop_eq_nil_of_le (by rw [wl_len]; omega), List.take_of_length_le (by rw [wl_len]; omega)]
        exact this
      · have hil : i < L.length := by omega
        refine (Any2.slices_Insert_int_shift insLays g 0 L.length cap i w.heap.size 0 1 1 (wl L) [.int .i64 x] _ hil (by omega) hr hc63 (by omega) (wl_len L) rfl hce (fun j hj => hex j (by omega)) (fun j hj => hfz _) hvs (wl_one L) h1v 3 3 1 cap ?_ ?_ (by omega) ?_ ?_).mono ?_
        · unfold World.shape?; rw [heap_alloc_new]; rfl
        · unfold World.shape?; rw [hg1]; simp [hcs]
        · exact World.frozen?_alloc_at (w := w) #[.int .i64 x] _ w.heap.size 0 rfl
        · exact World.frozen?_alloc_at (w := w) #[.int .i64 x] _ w.heap.size 1 rfl
        rintro e w' ⟨rfl, rfl⟩
        refine ⟨_, rfl, ?_, grown_touch (below_drew1 hA) (touch_sets g _ _ _ _ (touch_sets g _ _ _ _ (Touch.refl g _)))⟩
        have h1 := ownsI_sets ((wl L).drop i) xs (0 + (i + 1)) _ (ownsI_drew hR)
        have hdl : ((wl L).drop i).length = L.length - i := by rw [List.length_drop, wl_len]
        rw [setsL_is _ _ _ (by omega), List.drop_eq_nil_of_le (show xs.length ≤ 0 + (i + 1) + ((wl L).drop i).length by omega), List.append_nil, Nat.zero_add] at h1
        have h2 := ownsI_sets [.int .i64 x] _ (0 + i) _ h1
        rw [setsL_is _ _ _ (by simp; omega), Nat.zero_add] at h2
        rw [Nat.zero_add, Nat.zero_add, wl_ins]
        have e1 : (xs.take (i + 1) ++ (wl L).drop i).take i = (wl L).take i := by
          rw [List.take_append_of_le_length (by rw [List.length_take]; omega), List.take_take, Nat.min_eq_left (by omega), ← htl, List.take_take, Nat.min_eq_left (by omega)]
        have e2 : (xs.take (i + 1) ++ (wl L).drop i).drop (i + 1) = (wl L).drop i := by
          rw [List.drop_append_of_le_length (by rw [List.length_take]; omega), List.drop_eq_nil_of_le (by rw [List.length_take]; omega), List.nil_append]
        rw [e1, List.length_singleton, e2, List.append_assoc] at h2
        exact h2
    · -- there is none
      by_cases he : i = L.length
      · subst he
        refine (Any2.slices_Insert_int_end_grow insLays (some ⟨g, 0, none⟩) L.length cap w.heap.size 0 1 1 (wl L) [.int .i64 x] _ (by omega) hnc (by omega) (by omega) (wl_len L) rfl (fun h => by cases h) (fun a h j u hj => by
          obtain rfl := Option.some.inj h
          have := hce j u hj
          rw [Nat.zero_add] at this
          rw [Addr.add_lit, Nat.zero_add]
          exact this) hvs h1v).mono ?_
        rintro e w' ⟨rfl, rfl⟩
        have hG := grownCap_ge (w.alloc (.cells #[.int .i64 x] 3)) (L.length + 1) cap (insRen.t 3)
        have hG2 := grownCap_le_maxLen (w.alloc (.cells #[.int .i64 x] 3)) (L.length + 1) cap (insRen.t 3) (hml _ (by omega))
        generalize grownCap (w.alloc (.cells #[.int .i64 x] 3)) (L.length + 1) cap (insRen.t 3) = G at *
        refine ⟨_, rfl, ⟨by rw [wl_len, insL_len (Nat.le_refl _), Nat.mul_one], .inr ⟨_, G, _, rfl, by simp; omega, heap_alloc_new _ _, hG, hG2, ?_, ?_⟩⟩, ?_⟩
        · simp [zc_len, wl_len]; omega
        · rw [wl_ins, List.drop_eq_nil_of_le (by rw [wl_len]; omega), List.take_of_length_le (l := wl L) (by rw [wl_len]; omega)]
          simp only [Array.toList_append, List.toList_toArray, Nat.mul_one]
          rw [List.take_append_of_le_length (by simp [wl_len]), List.take_of_length_le (by simp [wl_len])]
        · exact grown_ext ((below_drew1 hA).alloc (by simp [World.drew]) _) _
      · have hil : i < L.length := by omega
        refine (Any2.slices_Insert_int_grow insLays g 0 L.length cap i w.heap.size 0 1 1 (wl L) [.int .i64 x] _ hil (by omega) hnc (by omega) (by omega) (wl_len L) rfl hce hvs (wl_one L) h1v).mono ?_
        rintro e w' ⟨rfl, rfl⟩
        have hG := grownCap_ge (w.alloc (.cells #[.int .i64 x] 3)) (L.length + 1) cap (insRen.t 3)
        have hG2 := grownCap_le_maxLen (w.alloc (.cells #[.int .i64 x] 3)) (L.length + 1) cap (insRen.t 3) (hml _ (by omega))
        generalize grownCap (w.alloc (.cells #[.int .i64 x] 3)) (L.length + 1) cap (insRen.t 3) = G at *
        have hw1 : (w.alloc (.cells #[.int .i64 x] 3)).heap.size = w.heap.size + 1 := by simp
        have hz := zc_len (L.length + 1 - i)
        have hz2 := zc_len (G - (L.length + 1))
        obtain ⟨Z, hZ⟩ : ∃ Z, Z = Builtin.zeroCells (Value.int .i64 0).cells (L.length + 1 - i) := ⟨_, rfl⟩
        obtain ⟨Z2, hZ2⟩ : ∃ Z2, Z2 = Builtin.zeroCells (Value.int .i64 0).cells (G - (L.length + 1)) := ⟨_, rfl⟩
        rw [← hZ] at hz ⊢
        rw [← hZ2] at hz2 ⊢
        have htk2 : ((wl L).take i).length = i := by rw [List.length_take, wl_len]; omega
        have hzl : Z.toList.length = L.length + 1 - i := by rw [Array.length_toList]; exact hz
        have htl : ((wl L).take i ++ Z.toList).length = L.length + 1 := by rw [List.length_append, htk2, hzl]; omega
        have hR : ((w.alloc (.cells #[.int .i64 x] 3)).alloc (.cells (((wl L).take i).toArray ++ Z ++ Z2) 3)).ownsRow B 3 1 (.slice (some ⟨(w.alloc (.cells #[.int .i64 x] 3)).heap.size, 0, none⟩) (L.length + 1) G) (L.length + 1) ((wl L).take i ++ Z.toList) := by
          refine ⟨by rw [htl]; omega, .inr ⟨_, G, _, rfl, by rw [hw1]; omega, heap_alloc_new _ _, hG, hG2, ?_, ?_⟩⟩
          · rw [Array.size_append, Array.size_append, List.size_toArray, htk2, hz, hz2]; omega
          · simp only [Array.toList_append, List.toList_toArray, Nat.mul_one]
            have e1 : ∀ M : List Value, (((wl L).take i ++ Z.toList) ++ M).take (L.length + 1) = (wl L).take i ++ Z.toList := fun M => by
              rw [← htl, List.take_left]
            exact e1 _
        have h1 := ownsI_sets [.int .i64 x] _ i _ (ownsI_drew hR)
        have e1 : setsL ((wl L).take i ++ Z.toList) i [.int .i64 x] = (wl L).take i ++ [.int .i64 x] ++ ((wl L).take i ++ Z.toList).drop (i + 1) := by
          have := setsL_is [.int .i64 x] ((wl L).take i ++ Z.toList) i (by rw [htl]; simp; omega)
          rw [this]
          have e2 : ((wl L).take i ++ Z.toList).take i = (wl L).take i := by
            have := List.take_left (l₁ := (wl L).take i) (l₂ := Z.toList)
            rwa [htk2] at this
          rw [e2]
          rfl
        rw [e1] at h1
        have hxl : ((wl L).take i ++ [Value.int .i64 x] ++ ((wl L).take i ++ Z.toList).drop (i + 1)).length = L.length + 1 := by
          rw [List.length_append, List.length_append, List.length_drop, htl, htk2, List.length_singleton]; omega
        have h2 := ownsI_sets ((wl L).drop i) _ (i + 1) _ (ownsI_drew h1)
        have hdl : ((wl L).drop i).length = L.length - i := by rw [List.length_drop, wl_len]
        have e3 : setsL ((wl L).take i ++ [Value.int .i64 x] ++ ((wl L).take i ++ Z.toList).drop (i + 1)) (i + 1) ((wl L).drop i) = (wl L).take i ++ .int .i64 x :: (wl L).drop i := by
          have h3 := setsL_is ((wl L).drop i) ((wl L).take i ++ [Value.int .i64 x] ++ ((wl L).take i ++ Z.toList).drop (i + 1)) (i + 1) (by rw [hxl, hdl]; omega)
          have h4 : ((wl L).take i ++ [Value.int .i64 x] ++ ((wl L).take i ++ Z.toList).drop (i + 1)).drop (i + 1 + ((wl L).drop i).length) = [] := List.drop_eq_nil_of_le (by rw [hxl, hdl]; omega)
          have h5 : ((wl L).take i ++ [Value.int .i64 x] ++ ((wl L).take i ++ Z.toList).drop (i + 1)).take (i + 1) = (wl L).take i ++ [Value.int .i64 x] := by
            have := List.take_left (l₁ := (wl L).take i ++ [Value.int .i64 x]) (l₂ := ((wl L).take i ++ Z.toList).drop (i + 1))
            rwa [List.length_append, htk2, List.length_singleton] at this
          rw [h3, h4, h5, List.append_nil, List.append_assoc]
          rfl
        rw [e3] at h2
        refine ⟨_, rfl, by rw [wl_ins]; exact h2, ?_⟩
        exact grown_ext (below_touch (below_drew1 (below_touch (below_drew1 (Below.alloc hA (by rw [hw1]; omega) _)) (touch_sets _ _ _ _ _ (Touch.refl _ _)) (by rw [hw1]; omega))) (touch_sets _ _ _ _ _ (Touch.refl _ _)) (by rw [hw1]; omega)) _

end Go.Proofs.Ytjpdllhhganbpaa
