/- Walks: ReadAddress of the model. -/
import Derived.Test.YtjidlahgfkdipacDoorRai
import Derived.Test.YtjidlahgfkdipacDoorHom
namespace Go.Proofs.YtjidlahgfkdipacDoor
set_option linter.unusedVariables false
set_option linter.unusedSimpArgs false
open Go.RowKit Go.Sort

instance (p : List UInt8) : Decidable (canon p) := inferInstanceAs (Decidable (_ ∧ _))

theorem vlF_snoc (l : List UInt8) (b : UInt8) : ∀ acc, vlF acc (l ++ [b]) = 10 * vlF acc l + dv b := by
  induction l with
  | nil => intro acc; rw [List.nil_append, vlF_cons, vlF_nil, vlF_nil, stp_eq]
  | cons a l ih => intro acc; rw [List.cons_append, vlF_cons, vlF_cons, ih]
/-- What the first j digits spell. -/
def vq (p : ByteArray) (j : Nat) : Nat := vlF 0 (p.data.toList.take j)
theorem vq_step {p : ByteArray} {j : Nat} (h : j < p.size) : vq p (j + 1) = 10 * vq p j + (bt p j - 48) := by
  obtain ⟨x, hx, hb⟩ := bt_at h
  unfold vq
  rw [List.take_add_one, hx]
  show vlF 0 (p.data.toList.take j ++ [x]) = _
  rw [vlF_snoc, dv_eq, hb]
theorem vq_all (p : ByteArray) : vq p p.size = vl p.data.toList := by
  have hsz : p.data.toList.length = p.size := by rw [Array.length_toList]; rfl
  unfold vq
  rw [← hsz, List.take_length, vl_eq]
theorem len_size (p : ByteArray) : p.data.toList.length = p.size := by rw [Array.length_toList]; rfl
theorem head_bt {p : ByteArray} (h : 0 < p.size) : p.data.toList.head? = some 48 ↔ bt p 0 = 48 := by
  obtain ⟨x, hx, hb⟩ := bt_at h
  rw [List.head?_eq_getElem?, hx]
  constructor
  · intro e
    rw [← hb, Option.some.inj e]; rfl
  · intro e
    rw [UInt8.toNat_inj.1 (show x.toNat = (48 : UInt8).toNat from hb.trans e)]
theorem digP_iff (p : ByteArray) : digB p = true ↔ ∀ b ∈ p.data.toList, dgt b := by
  unfold digB
  rw [allN_iff]
  constructor
  · intro h b hb
    obtain ⟨j, hj⟩ := List.mem_iff_getElem?.1 hb
    have hl : j < p.size := by rw [← len_size]; exact (List.getElem?_eq_some_iff.1 hj).1
    obtain ⟨x, hx, hbt⟩ := bt_at hl
    rw [hx] at hj
    obtain rfl := Option.some.inj hj
    have := h j hl
    unfold dgB at this
    simp only [Bool.and_eq_true, decide_eq_true_eq] at this
    unfold dgt
    omega
  · intro h i hi
    obtain ⟨x, hx, hbt⟩ := bt_at hi
    have := h x (List.mem_iff_getElem?.2 ⟨i, hx⟩)
    unfold dgt at this
    unfold dgB
    simp only [Bool.and_eq_true, decide_eq_true_eq]
    omega
theorem nc_dig {p : ByteArray} (h : (digB p && decide (0 < p.size)) = false) : ¬ canon p.data.toList := fun c => by
  have h1 := (digP_iff p).2 c.1
  have h2 := c.2.1
  rw [len_size] at h2
  rw [h1, Bool.true_and, decide_eq_false_iff_not] at h
  omega
theorem nc_len {p : ByteArray} (h : 3 < p.size) : ¬ canon p.data.toList := fun c => by
  have h2 := c.2.2.1
  rw [len_size] at h2
  omega
theorem nc_zero {p : ByteArray} (h : 1 < p.size) (h0 : bt p 0 = 48) : ¬ canon p.data.toList := fun c =>
  c.2.2.2.1 (by rw [len_size]; exact h) ((head_bt (by omega)).2 h0)
theorem nc_big {p : ByteArray} (h : 255 < vq p p.size) : ¬ canon p.data.toList := fun c => by
  have := c.2.2.2.2
  rw [← vq_all] at this
  omega
theorem canon_of {p : ByteArray} (h : (digB p && decide (0 < p.size)) = true) (h3 : p.size ≤ 3) (h0 : 1 < p.size → bt p 0 ≠ 48) (hv : vq p p.size ≤ 255) : canon p.data.toList := by
  simp only [Bool.and_eq_true, decide_eq_true_eq] at h
  exact ⟨(digP_iff p).1 h.1, by rw [len_size]; omega, by rw [len_size]; exact h3, fun h1 e => h0 (by rw [← len_size]; exact h1) ((head_bt h.2).1 e), by rw [← vq_all]; exact hv⟩

theorem owns_keep0 {w : World} {B B' n : Nat} {v : Value} {xs : List Value} (ho : w.ownsRow B 3 1 v n xs) (h : B' ≤ B) : w.ownsRow B' 3 1 v n xs := by
  refine ⟨ho.1, ?_⟩
  rcases ho.2 with h0 | ⟨g, cap, cur, rfl, hb, rest⟩
  · exact .inl h0
  · exact .inr ⟨g, cap, cur, rfl, Nat.le_trans h hb, rest⟩

theorem e_facts {c n m : Nat} (hm : m = c - 48) (h : 48 ≤ c) (h2 : c ≤ 57) (hn : n ≤ 100) : IntKind.u8.wrap ((c : Int) - 48) = (m : Int) ∧ wrap64 (10 * (n : Int)) = 10 * n ∧ wrap64 (10 * (n : Int) + (m : Int)) = 10 * n + m ∧ IntKind.i64.wrap (10 * (n : Int)) = 10 * n ∧ IntKind.i64.wrap (10 * (n : Int) + (m : Int)) = 10 * n + m ∧ IntKind.i64.wrap (m : Int) = m ∧ wrap64 (m : Int) = m := by
  refine ⟨by rw [IntKind.wrap_u8]; omega, by unfold wrap64; omega, by unfold wrap64; omega, by rw [IntKind.wrap_i64]; omega, by rw [IntKind.wrap_i64]; omega, by rw [IntKind.wrap_i64]; omega, by unfold wrap64; omega⟩

/-- The model's answer. -/
def spL (s : ByteArray) : List Int := (parts s 46).map fun p => (vl p.data.toList : Int)
def spB (s : ByteArray) : Bool := decide (s.size ≤ 15) && (decide ((parts s 46).length = 4) && decide (∀ x ∈ parts s 46, canon x.data.toList))

end Go.Proofs.YtjidlahgfkdipacDoor
