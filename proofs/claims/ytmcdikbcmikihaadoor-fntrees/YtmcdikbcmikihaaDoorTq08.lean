/- What the model's reader hands back. Walks: a leaf that the model's reader reads (written by mkrdq.py). -/
import Derived.Test.YtmcdikbcmikihaaDoorTq07
namespace Go.Proofs.YtmcdikbcmikihaaDoor

section
set_option linter.unusedVariables false
set_option linter.unusedSimpArgs false

open Go.RowKit

/-- What a call of the model's reader hands back. -/
def GivesRr (B : Nat) (w : World) (bs lv : Value) (R : Rdr) (L : List It) (e : Ending) (w' : World) : Prop :=
  ∃ la ln lc z, e = .returned (.tuple #[.agg (rrL bs (.slice la ln lc) R.code (if R.code = 0 then 0 else R.pl)).toArray, .int .i64 z]) ∧
    (R.code = 0 → z = (R.nx : Int) ∧ ((Value.slice la ln lc).ownBlock = lv.ownBlock ∨ ∃ q, (Value.slice la ln lc).ownBlock = some q ∧ w.heap.size ≤ q) ∧ ∃ M, LAcc B w' (.slice la ln lc) (L ++ M) ∧ M.map ct = R.its ∧ ∀ t ∈ M, 0 < t.len → w.heap.size ≤ t.blk) ∧ w.grownBy w' lv.ownBlock

theorem GivesRr.bad {B : Nat} {w w' : World} {bs : Value} {la : Option Addr} {ln lc : Nat} {R : Rdr} {L : List It} {c p z : Int} (h : R.code = c) (hp : R.pl = p) (hc : c ≠ 0) (hE : Ext w w') :
    GivesRr B w bs (.slice la ln lc) R L (.returned (.tuple #[.agg (rrL bs (.slice la ln lc) c p).toArray, .int .i64 z])) w' :=
  ⟨la, ln, lc, z, by rw [h, if_neg hc, hp], fun h0 => absurd (h ▸ h0) hc, grow_ext hE⟩
end

section
set_option linter.unusedVariables false
set_option linter.unusedSimpArgs false

open Go.RowKit

theorem blk_hp {w w' : World} {C : Nat} {vs : List Value} (h : Blk w C vs) (e : w'.heap[C]? = w.heap[C]?) : Blk w' C vs := fun i v hi =>
  ⟨(World.cell?_of_block (a := ⟨C, i, none⟩) e).trans (h i v hi).1, (World.frozen?_of_block (a := ⟨C, i, none⟩) e).trans (h i v hi).2⟩

/-- Blocks that may have turned: the list's own, and newer ones. -/
def Xof (o : Option Nat) (S : Nat) (q : Nat) : Prop := o = some q ∨ S ≤ q

theorem grwX_grown {o o1 : Option Nat} {S : Nat} {a b : World} (h : a.grownBy b o1) (k : ∀ q, o1 = some q → Xof o S q) : Grw (Xof o S) a b := ⟨h.os, h.tape, h.output, h.size, fun q hq hn => h.block q hq (fun e => hn (k q e.symm))⟩

theorem grw_set {o : Option Nat} {S g i : Nat} {a : World} {v : Value} (h : Xof o S g) : Grw (Xof o S) a (a.setCell ⟨g, i, none⟩ v) := Grw.of_touch ((Touch.refl g a).set i v) h

theorem grown_grw {o : Option Nat} {a b : World} (h : Grw (Xof o a.heap.size) a b) : a.grownBy b o := ⟨h.os, h.tape, h.output, h.size, fun q hq hn => h.block q hq (fun e => by
  rcases e with e | e
  · exact hn e.symm
  · omega)⟩

theorem LAcc.at3 {B : Nat} {W : World} {g n cap : Nat} {A C : List It} {t : It} (h : LAcc B W (.slice (some ⟨g, 0, none⟩) n cap) (A ++ t :: C)) : W.cell? ⟨g, A.length * 3, none⟩ = some (.int .i64 t.tag) ∧ W.cell? ⟨g, A.length * 3 + 1, none⟩ = some (.slice t.ad t.len t.cap) ∧ W.cell? ⟨g, A.length * 3 + 2, none⟩ = some (.int .i64 t.kid) ∧ ∀ j, W.frozen? ⟨g, j, none⟩ = false := by
  have hn := h.len_n
  have hr := h.row
  rw [← hn] at hr
  have hl : n * 3 = A.length * 3 + 3 + C.length * 3 := by rw [hn]; simp; omega
  have hg : ∀ j, j < 3 → W.cell? ⟨g, A.length * 3 + j, none⟩ = (itW t)[j]? := fun j hj => by
    rw [World.ownsRow.cellAt hr (A.length * 3 + j) (by omega), rowL_at]
    have ha : (rowL A).length = A.length * 3 := rowL_len A
    rw [List.getElem?_append_right (by omega), ha, Nat.add_sub_cancel_left, List.getElem?_append_left (by rw [itW_len]; exact hj)]
  exact ⟨hg 0 (by omega), hg 1 (by omega), hg 2 (by omega), fun j => World.ownsRow.frozenAt hr j⟩

theorem heap_putL (C : Nat) : ∀ (vs : List Value) (i : Nat) (w : World) (k : Nat), k ≠ C → (putL C i vs w).heap[k]? = w.heap[k]?
  | [], _, _, _, _ => rfl
  | v :: vs, i, w, k, hk => (heap_putL C vs (i + 1) _ k hk).trans (Below.heap_setCell _ _ _ _ (by show k ≠ C; exact hk))
end

end Go.Proofs.YtmcdikbcmikihaaDoor
