/- The walk of the law FnExactWriteDer. WriteDer of both over lists by what they tell. An append of bytes onto a full row: all that lay there stays. -/
import Derived.Test.YtgdjaapjdmancaaGreatDoorRows
import Derived.WalkKit
import Derived.ProofKit
import Derived.OpenShut
import Derived.ChangeOld
import Derived.Below
import Derived.Test.YtgdjaapjdmancaaGreatDoorCy01
import Derived.Test.YtgdjaapjdmancaaGreatDoorCy02
import Derived.Test.YtgdjaapjdmancaaGreatDoorCy03
import Derived.Test.YtgdjaapjdmancaaGreatDoorCy05
import Derived.Test.YtgdjaapjdmancaaGreatDoorCy27
import Derived.Test.YtgdjaapjdmancaaGreatDoorCy28
import Derived.Test.YtgdjaapjdmancaaGreatDoorCy08
import Derived.Test.YtgdjaapjdmancaaGreatDoorCy20
import Derived.ArgAppend
namespace Go.Proofs.YtgdjaapjdmancaaGreatDoor

section
set_option linter.unusedVariables false
set_option linter.unusedSimpArgs false

open Go.RowKit

theorem wdL_len (x : Nat → It) (n : Nat) : (wdL x n).length ≤ 4000 := by
  unfold wdL
  split
  · rename_i h
    unfold wdB at h
    simp only [Bool.and_eq_true, decide_eq_true_eq] at h
    exact h.2
  · simp

/-- WriteDer's answer, as the laws read it. -/
def GivesKb (w : World) (M : Nat) (F : Nat → Int) (ok : Bool) (e : Ending) (w' : World) : Prop := ∃ a g cap, e = .returned (.tuple #[.slice a M cap, .bool ok]) ∧ w.heap.size ≤ g ∧ BOwn w' a g 0 M F ∧ Ext w w'

theorem GivesWd.k {w w' : World} {L : List Int} {ok : Bool} {e : Ending} (h : GivesWd w L ok e w') : GivesKb w L.length (fun i => L.getD i 0) ok e w' := by
  obtain ⟨v, rfl, h1, h2⟩ := h
  rw [bl_byts] at h1
  obtain ⟨a, g, cap, rfl, hg, -, -, hO⟩ := owns_seg h1
  exact ⟨a, g, cap, rfl, hg, hO, h2⟩

theorem Cpy.none {S n : Nat} {x : Nat → It} {W : World} (hn : n = 0) (h : ∀ o, W.frozen? ⟨S, o, none⟩ = false) : Cpy S n 0 x W :=
  ⟨fun j _ h2 => by omega, fun j _ h2 => by omega, fun j _ h2 => by omega, h, fun j _ h2 => by omega⟩
end

section
set_option linter.unusedVariables false
set_option linter.unusedSimpArgs false

open Go.RowKit

/-- Without the place where its bytes lie. -/
def strp (t : It) : It := ⟨t.tag, t.kid, none, 0, 0, t.len, 0, t.f⟩

theorem wrF_strp (x : Nat → It) (n : Nat) : ∀ m i, wrF (fun i => strp (x i)) n m i = wrF x n m i
  | 0, _ => rfl
  | m + 1, i => by
    have h : wrF (fun i => strp (x i)) n m = wrF x n m := funext (wrF_strp x n m)
    rw [wrF, wrF, h]
    rfl

theorem wdB_strp (x : Nat → It) (n : Nat) : wdB (fun i => strp (x i)) n = wdB x n := by
  unfold wdB
  rw [wrF_strp]
  rfl

theorem wdL_strp (x : Nat → It) (n : Nat) : wdL (fun i => strp (x i)) n = wdL x n := by
  unfold wdL
  rw [wrF_strp, wdB_strp]

/-- An item that tells this. -/
def icI (c : Ic) : It := ⟨c.tag, c.kid, none, 0, 0, c.bd.length, 0, fun j => c.bd.getD j 0⟩

def xC (C : List Ic) : Nat → It := fun i => icI (C.getD i ⟨0, 0, []⟩)

theorem strp_nf {t : It} (h : Nf t) : strp t = icI (ct t) := by
  have h2 : (fun j => (ct t).bd.getD j 0) = t.f := h.symm
  unfold strp icI
  rw [h2, ct_len]
  rfl

theorem strp_same {L : List It} {C : List Ic} (h : SameC L C) : (fun i => strp (L.getD i dI)) = xC C := by
  funext i
  unfold xC
  by_cases hi : i < C.length
  · obtain ⟨h1, h2⟩ := h.at' hi
    rw [strp_nf (h.2 _ h1), h2]
    congr 1
    simp [List.getD_eq_getElem?_getD, hi]
  · have hl := h.len
    rw [List.getD_eq_getElem?_getD, List.getD_eq_getElem?_getD, List.getElem?_eq_none (by omega), List.getElem?_eq_none (by omega)]
    rfl

/-- What WriteDer writes of what is told, and whether. -/
def wtL (C : List Ic) : List Int := wdL (xC C) C.length

def wtB (C : List Ic) : Bool := wdB (xC C) C.length

theorem wtL_len (C : List Ic) : (wtL C).length ≤ 4000 := wdL_len _ _

/-- Few, short, and with few kids. -/
def SmK (C : List Ic) : Prop := SmC C ∧ ∀ c ∈ C, c.kid ≤ 1000

theorem specDer_C {B : Nat} {w : World} {v : Value} {L : List It} {C : List Ic} (hA : LAcc B w v L) (hc : L.map ct = C) (hC : SmK C) :
    Calls Tryz.prog 20 #[v] w fun e w' => GivesKb w (wtL C).length (fun i => (wtL C).getD i 0) (wtB C) e w' := by
  have hS : SameC L C := ⟨hc, hA.bods.nf⟩
  have hs : ∀ t ∈ L, t.len ≤ 1000 := fun t ht => by
    have h1 : ct t ∈ C := by rw [← hc]; exact List.mem_map.2 ⟨t, ht, rfl⟩
    have := hC.1.2 _ h1
    rw [ct_len] at this
    exact this
  obtain ⟨a, S, cap, rfl, hI⟩ := hA.iow (fun t ht => by have := hs t ht; omega)
  have hl : L.length = C.length := map_len hc
  have hm : ∀ i, i < L.length → L.getD i dI ∈ L := fun i hi => by rw [List.getD_eq_getElem?_getD, List.getElem?_eq_getElem hi]; exact List.getElem_mem _
  have := specWriteDer_any a S 0 L.length cap (fun i => L.getD i dI) w hI.toISeg (by have := hC.1.1; omega) (fun i hi => by have := hs _ (hm i hi); omega)
  refine this.mono fun e w' k => ?_
  have k2 := k.k
  rw [← wdL_strp, ← wdB_strp, strp_same hS, hl] at k2
  exact k2

theorem implDer_C {B : Nat} {w : World} {v : Value} {L : List It} {C : List Ic} (hA : LAcc B w v L) (hc : L.map ct = C) (hC : SmK C) :
    Calls Tryz.prog 26 #[v] w fun e w' => GivesKb w (wtL C).length (fun i => (wtL C).getD i 0) (wtB C) e w' := by
  have hS : SameC L C := ⟨hc, hA.bods.nf⟩
  have hs : ∀ t ∈ L, t.len ≤ 1000 ∧ t.kid ≤ 1000 := fun t ht => by
    have h1 : ct t ∈ C := by rw [← hc]; exact List.mem_map.2 ⟨t, ht, rfl⟩
    have h2 := hC.1.2 _ h1
    have h3 := hC.2 _ h1
    rw [ct_len] at h2
    exact ⟨h2, h3⟩
  obtain ⟨a, S, cap, rfl, hI⟩ := hA.iow (fun t ht => by have := (hs t ht).1; omega)
  have hl : L.length = C.length := map_len hc
  have hm : ∀ i, i < L.length → L.getD i dI ∈ L := fun i hi => by rw [List.getD_eq_getElem?_getD, List.getElem?_eq_getElem hi]; exact List.getElem_mem _
  have := implWriteDer_any a S 0 L.length cap (fun i => L.getD i dI) w hI.toISeg (by have := hC.1.1; omega) (fun i hi => by have := (hs _ (hm i hi)).1; omega) (fun i hi => by have := (hs _ (hm i hi)).2; omega)
  refine this.mono fun e w' k => ?_
  have k2 := k.k
  rw [← wdL_strp, ← wdB_strp, strp_same hS, hl] at k2
  exact k2

/-- A piece's items, written. -/
theorem LAcc.of_its {B w2s : Nat} {w2 w3 : World} {u3 v2 : Value} {L2 : List It} (h2 : Pce B w2s w2 v2 L2) (h3 : w3.ownsRow w2.heap.size 60 3 u3 L2.length (rowL L2)) (h3E : Ext w2 w3) (hB : B ≤ w2.heap.size) : LAcc B w3 u3 L2 :=
  ⟨ownsRow_low h3 hB, h2.bods.ext h3E, fun t ht h0 hh => by
    have h5 := (h3.lt _ hh).1
    have h6 := h2.bods.lt ht h0
    omega⟩
end

section
set_option linter.unusedVariables false
set_option linter.unusedSimpArgs false

open Go.RowKit

theorem wp_append_bsF {o : Oper} {a0 : Act} {K : Act → World → Prop} {Q : Exit → Act → World → Prop} {w : World} (s x : Operand)
    (ho : o.op = .call { callee := .builtin .append, args := #[s, x], argTypes := #[24, 24] })
    (R n : Nat) (xs : List Value) (hs : a0.eval s = .slice (some ⟨R, 0, none⟩) n n) (hxl : xs.length = n) (hcell : ∀ j u, xs[j]? = some u → w.cell? ⟨R, j, none⟩ = some u)
    (a : Option Addr) (b off m c : Nat) (f : Nat → Int) (hx : a0.eval x = .slice a m c) (hB : BSeg w a b off m f) (hm : 0 < m) (hlen : n + m ≤ 1099511627776)
    (h : ∀ v' w', w'.ownsRow w.heap.size 5 1 v' (n + m) (xs ++ byts f m) → Ext w w' → K (a0.put o.dst v') w') : o.wp Tryz.prog a0 w K Q := by
  obtain ⟨i0, hi, hz0, hz1, hz2⟩ := info_parts Tryz.info5
  obtain rfl := hB.at' hm
  obtain ⟨v', w', hr, h2, h3⟩ := run_append_arg_grows (P := Tryz.prog) (w := w) 24 o.type 5 i0 (.int .u8 0) 1 1 Tryz.underlying24 hi hz0 hz1 hz2 rfl (by decide) ⟨R, 0, none⟩ n n xs (by omega) (fun j u hj => by
    have ha : (⟨R, 0, none⟩ : Addr).add j = ⟨R, j, none⟩ := by
      by_cases h0 : j = 0
      · subst h0; simp [Addr.add]
      · simp [Addr.add, h0]
    rw [ha]
    exact hcell j u hj) ⟨b, off, none⟩ m c (byts f m) (by rw [byts_length, Nat.mul_one]) (fun j u hj => by
    have hjm : j < m := by have := (List.getElem?_eq_some_iff.1 hj).1; rwa [byts_length] at this
    rw [show (byts f m)[j]? = some (.int .u8 (f j)) by simp [byts, hjm]] at hj
    obtain rfl := Option.some.inj hj
    have e : Addr.add ⟨b, off, none⟩ j = ⟨b, off + j, none⟩ := by
      by_cases h0 : j = 0
      · subst h0; simp [Addr.add]
      · simp [Addr.add, h0]
    rw [e]
    exact hB.cell j hjm) (by omega) (by unfold maxLen; omega) (by omega)
  unfold Oper.wp execOp
  simp only [ho, resolve, invoke, builtin, Sem.run_bind, Sem.run_pure, Result.andThen_ok, List.map_toArray, List.map_cons, List.map_nil, hs, hx, hr]
  exact h v' w' h2 ((Below.refl _ _).grown h3 (Nat.le_refl _) (fun k hk => by simp at hk))
end

end Go.Proofs.YtgdjaapjdmancaaGreatDoor
