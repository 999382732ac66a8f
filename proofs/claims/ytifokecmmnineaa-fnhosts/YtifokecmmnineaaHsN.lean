/- Plain facts: what a star matches, hosts under each other. Nothing of the program. -/
import Derived.Test.YtifokecmmnineaaUnd
import Derived.Test.YtifokecmmnineaaLow
namespace Go.Proofs.Ytifokecmmnineaa
set_option linter.unusedVariables false
set_option linter.unusedSimpArgs false
open Go.RowKit

theorem bt_extract (s : ByteArray) (a b i : Nat) (hb : b ≤ s.size) (hi : a + i < b) : bt (s.extract a b) i = bt s (a + i) := by
  have h1 : i < (s.extract a b).data.toList.length := by rw [Lib.extract_data]; have := Lib.size_eq s; simp; omega
  have h2 : a + i < s.data.toList.length := by have := Lib.size_eq s; omega
  rw [← bt_list _ i h1, ← bt_list s (a + i) h2]
  congr 1
  simp only [Lib.extract_data]
  rw [List.getElem_take, List.getElem_drop]

theorem partsFrom_all (P : Nat → Bool) (s : ByteArray) (m : Nat) : ∀ n k fr, k + n = s.size → fr ≤ k → (∀ x ∈ partsFrom s m n k fr, ∀ i, i < x.size → P (bt x i) = true) → ∀ i, fr ≤ i → i < s.size → bt s i = m ∨ P (bt s i) = true
  | 0, k, fr, hk, hf, h, i, h1, h2 => by
    have := h (s.extract fr s.size) (by simp [partsFrom]) (i - fr) (by simp; omega)
    rw [bt_extract s fr s.size (i - fr) (Nat.le_refl _) (by omega), show fr + (i - fr) = i by omega] at this
    exact .inr this
  | n + 1, k, fr, hk, hf, h, i, h1, h2 => by
    unfold partsFrom at h
    split at h
    · rename_i e
      by_cases c : i < k
      · have := h (s.extract fr k) (by simp) (i - fr) (by simp; omega)
        rw [bt_extract s fr k (i - fr) (by omega) (by omega), show fr + (i - fr) = i by omega] at this
        exact .inr this
      · by_cases c' : i = k
        · subst c'; exact .inl e
        · exact partsFrom_all P s m n (k + 1) (k + 1) (by omega) (Nat.le_refl _) (fun x hx => h x (List.mem_cons_of_mem _ hx)) i (by omega) h2
    · exact partsFrom_all P s m n (k + 1) fr (by omega) (by omega) h i h1 h2

theorem host_bytes {s : ByteArray} (h : hostB s = true) (i : Nat) (hi : i < s.size) : bt s i = 46 ∨ chB (bt s i) = true := by
  unfold hostB hostL at h
  simp only [Bool.and_eq_true, decide_eq_true_eq] at h
  refine partsFrom_all chB s 46 s.size 0 0 (by omega) (Nat.le_refl _) (fun x hx j hj => ?_) i (Nat.zero_le _) hi
  have := List.all_eq_true.1 h.2.1 x hx
  unfold labB at this
  simp only [Bool.and_eq_true, decide_eq_true_eq] at this
  exact (allN_iff chB x x.size).1 this.1 j hj

theorem str_self (s : ByteArray) : strOfNums (nums (fun i => (bt s i : Int)) s.size) = s := by
  apply data_inj
  rw [strOfNums_data]
  unfold nums
  rw [List.map_map]
  apply List.ext_getElem
  · rw [List.length_map, List.length_range]; exact Lib.size_eq s
  · intro i h1 h2
    rw [List.getElem_map, List.getElem_range]
    apply UInt8.toNat.inj
    rw [bt_list, Function.comp_apply, UInt8.toNat_ofNat', Int.toNat_natCast]
    exact Nat.mod_eq_of_lt (bt_lt s i)

theorem host_lower {s : ByteArray} (h : hostB s = true) : strOfNums (nums (lowF s) s.size) = s := by
  rw [show nums (lowF s) s.size = nums (fun i => (bt s i : Int)) s.size from List.map_congr_left (fun i hi => ?_)]
  · exact str_self s
  · unfold lowF lowB
    have hc := host_bytes h i (List.mem_range.1 hi)
    generalize bt s i = c at *
    rw [if_neg]
    intro hx
    simp only [chB, smB, dgB, Bool.or_eq_true, Bool.and_eq_true, decide_eq_true_eq, beq_iff_eq] at hc
    omega

theorem star_bt {s : ByteArray} (h : starB s = true) : 2 ≤ s.size ∧ bt s 0 = 42 := by
  unfold starB starE at h
  simp only [Bool.and_eq_true, decide_eq_true_eq, eqS_iff] at h
  refine ⟨h.1, ?_⟩
  have := bt_extract s 0 2 0 h.1 (by omega)
  rw [h.2] at this
  exact this.symm

theorem host_plain {s : ByteArray} (h : hostB s = true) : starB s = false := by
  cases e : starB s
  · rfl
  · obtain ⟨h1, h2⟩ := star_bt e
    have hc := host_bytes h 0 (by omega)
    rw [h2] at hc
    exact absurd hc (by decide)

theorem host_self {s : ByteArray} (h : hostB s = true) : matB s s = true ∧ undB s s = true := by
  have hp := host_plain h
  have hb : base s = s := by unfold base; rw [hp]; simp
  constructor
  · unfold matB patB
    rw [hp, hb, h, eqS_refl]
    rfl
  · unfold undB
    rw [h, eqS_refl]
    rfl

theorem behind_size {s : ByteArray} (h : dot s < s.size) : (behind s).size = s.size - (dot s + 1) := by
  unfold behind
  rw [if_pos h]
  simp

/-- What a pattern with a star matches. -/
theorem star_match {p h : ByteArray} (hm : matB p h = true) (hs : starB p = true) : undB (base p) h = true ∧ eqS (base p) h = false ∧ matB p (⟨#[120, 46]⟩ ++ h) = false ∧ matB p (base p) = false := by
  unfold matB at hm
  rw [hs] at hm
  simp only [if_true, Bool.and_eq_true, decide_eq_true_eq, eqS_iff] at hm
  obtain ⟨hp, hh, hd, he⟩ := hm
  have hz := behind_size hd
  rw [he] at hz
  have hne : ∀ x : ByteArray, x.size ≠ (base p).size → eqS x (base p) = false := by
    intro x hx
    cases e : eqS x (base p)
    · rfl
    · rw [(eqS_iff _ _).1 e] at hx; exact absurd rfl hx
  have hb : hostB (base p) = true := by
    unfold patB at hp
    simp only [Bool.and_eq_true] at hp
    exact hp.1
  refine ⟨?_, ?_, ?_, ?_⟩
  · unfold undB
    rw [hb, hh, Bool.true_and, Bool.true_and]
    have : sufB (base p) h = true := by
      unfold sufB
      rw [decide_eq_true (by omega), Bool.true_and, Bool.and_eq_true, eqS_iff]
      constructor
      · rw [show h.size - (base p).size = dot h + 1 by omega]
        rw [← he]
        unfold behind
        rw [if_pos hd]
      · rw [show h.size - (base p).size - 1 = dot h by omega, (dot_is h).yes hd]
        rfl
    rw [this, Bool.or_true]
  · rw [eqS_comm]
    exact hne h (by omega)
  · unfold matB
    rw [hs]
    have hl : ((⟨#[120, 46]⟩ : ByteArray) ++ h).size = 2 + h.size := by rw [ByteArray.size_append]; rfl
    have hd1 : dot (⟨#[120, 46]⟩ ++ h) = 1 := by
      refine IsDot.unique (dot_is _) ⟨by omega, fun j hj => ?_, fun _ => ?_⟩
      · obtain rfl : j = 0 := by omega
        have := bt_list (⟨#[120, 46]⟩ ++ h) 0 (by simp)
        simp at this
        omega
      · have := bt_list (⟨#[120, 46]⟩ ++ h) 1 (by simp)
        simp at this
        omega
    have : eqS (behind (⟨#[120, 46]⟩ ++ h)) (base p) = false := hne _ (by rw [behind_size (by rw [hd1, hl]; omega), hd1, hl]; omega)
    rw [this]
    simp
  · unfold matB
    rw [hs]
    by_cases c : dot (base p) < (base p).size
    · have : eqS (behind (base p)) (base p) = false := hne _ (by rw [behind_size c]; omega)
      rw [this]
      simp
    · simp [c]

theorem und_not {b h : ByteArray} (hu : undB b h = true) (hn : eqS b h = false) : undB h b = false := by
  cases e : undB h b
  · rfl
  · unfold undB sufB at hu e
    rw [hn] at hu
    rw [eqS_comm, hn] at e
    simp only [Bool.false_or, Bool.and_eq_true, decide_eq_true_eq] at hu e
    omega

theorem host_a : hostB ⟨#[97, 46, 111, 114, 103]⟩ = true := by decide +kernel
theorem low_a : strOfNums (nums (lowF ⟨#[65, 46, 90]⟩) (ByteArray.size ⟨#[65, 46, 90]⟩)) = ⟨#[97, 46, 122]⟩ := by decide +kernel

end Go.Proofs.Ytifokecmmnineaa
