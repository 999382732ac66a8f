/- Plain: what the law of ChainOf carries through its walk, told of values. Plain: what the law of ChainOf keeps while its arguments are marked; the contracts that its walk takes. The walk of the law FnExactChainOf (written by mkcow.py). -/
import Derived.Test.YtfhiiakoilkbkaaGreatDoorCv39
import Derived.Test.YtfhiiakoilkbkaaGreatDoorCv41
namespace Go.Proofs.YtfhiiakoilkbkaaGreatDoor
set_option linter.unusedVariables false
set_option linter.unusedSimpArgs false
section
open Go.RowKit
def Kz (B T : Nat) (w w' : World) : Prop := w.heap.size ≤ w'.heap.size ∧ ∀ b, B ≤ b → b < T → w'.heap[b]? = w.heap[b]?
theorem Kz.trans {B T : Nat} {a b c : World} (h : Kz B T a b) (k : Kz B T b c) : Kz B T a c := ⟨Nat.le_trans h.1 k.1, fun i h1 h2 => (k.2 i h1 h2).trans (h.2 i h1 h2)⟩
theorem Kz.refl (B T : Nat) (w : World) : Kz B T w w := ⟨Nat.le_refl _, fun _ _ _ => rfl⟩
theorem Kz.ext {B T : Nat} {w w' : World} (hT : T ≤ w.heap.size) (e : Ext w w') : Kz B T w w' := ⟨Below.size e, fun b _ h => Below.block e b (by omega)⟩
def Mz (B T : Nat) (w w' : World) : Prop := Msm (fun b => B ≤ b ∧ b < T) w w'
theorem Kz.msm {B T B' T' : Nat} {w w' : World} (hT : T ≤ w.heap.size) (h : T ≤ B' ∨ T' ≤ B) (e : Mz B' T' w w') : Kz B T w w' := ⟨e.size, fun b h1 h2 => e.same b (by omega) (fun k => by omega)⟩
theorem Mz.ext {B T : Nat} {u w w' : World} (h : Ext u w) (hB : u.heap.size ≤ B) (e : Mz B T w w') : Ext u w' :=
 Below.trans h ⟨e.os, e.tape, e.output, e.size, fun k hk => e.same k (Nat.lt_of_lt_of_le hk (Below.size h)) (fun q => by omega)⟩
def InC (c : Ct) (w : World) (L : List Value) : Prop := ∃ m, L = ctL c m ∧ CtIn w c m
def InV (n : Nat) (c : Nat → Ct) (w : World) (v : Value) : Prop := ∃ (q : Plc) (m : Nat → CtPl), v = .slice q.ad n q.cap ∧ CSeg w q n c m
def InI (n : Nat) (f : Nat → Int) (w : World) (v : Value) : Prop := ∃ q : Plc, v = .slice q.ad n q.cap ∧ n ≤ q.cap ∧ Seg w q.ad q.b q.off n f
theorem InC.ext {c : Ct} {w w' : World} {L : List Value} (h : InC c w L) (e : Ext w w') : InC c w' L := by obtain ⟨m, h1, h2⟩ := h; exact ⟨m, h1, h2.ext e⟩
theorem InV.ext {n : Nat} {c : Nat → Ct} {w w' : World} {v : Value} (h : InV n c w v) (e : Ext w w') : InV n c w' v := by obtain ⟨q, m, h1, h2⟩ := h; exact ⟨q, m, h1, h2.ext e⟩
theorem InC.len {c : Ct} {w : World} {L : List Value} (h : InC c w L) : L.length = 34 ∧ ∀ v ∈ L, v.oneCell' = true := by
 obtain ⟨m, rfl, -⟩ := h; exact ⟨rfl, by simp [ctL, kyL, exL, Value.oneCell']⟩
def OwC (c : Ct) (B T : Nat) (w : World) (L : List Value) : Prop := T ≤ w.heap.size ∧ ∃ m, L = ctL c m ∧ ∀ w'', Kz B T w w'' → CtN B T w'' c m
def OwV (n : Nat) (c : Nat → Ct) (B T : Nat) (w : World) (v : Value) : Prop := T ≤ w.heap.size ∧ ∃ (q : Plc) (m : Nat → CtPl), v = .slice q.ad n q.cap ∧ ∀ w'', Kz B T w w'' → COw w'' q n c m ∧ ∀ b, CsT q n c m b → B ≤ b ∧ b < T
def OwI (n : Nat) (f : Nat → Int) (B T : Nat) (w : World) (v : Value) : Prop := T ≤ w.heap.size ∧ ∃ q : Plc, v = .slice q.ad n q.cap ∧ n ≤ q.cap ∧ ∀ w'', Kz B T w w'' → Own w'' q.ad q.b q.off n f ∧ (0 < n → B ≤ q.b ∧ q.b < T)
theorem OwC.kz {c : Ct} {B T : Nat} {w w' : World} {L : List Value} (h : OwC c B T w L) (k : Kz B T w w') : OwC c B T w' L := by obtain ⟨h0, m, h1, h2⟩ := h; exact ⟨Nat.le_trans h0 k.1, m, h1, fun w'' k2 => h2 w'' (k.trans k2)⟩
theorem OwV.kz {n : Nat} {c : Nat → Ct} {B T : Nat} {w w' : World} {v : Value} (h : OwV n c B T w v) (k : Kz B T w w') : OwV n c B T w' v := by obtain ⟨h0, q, m, h1, h2⟩ := h; exact ⟨Nat.le_trans h0 k.1, q, m, h1, fun w'' k2 => h2 w'' (k.trans k2)⟩
theorem OwI.kz {n : Nat} {f : Nat → Int} {B T : Nat} {w w' : World} {v : Value} (h : OwI n f B T w v) (k : Kz B T w w') : OwI n f B T w' v := by obtain ⟨h0, q, h1, h2, h3⟩ := h; exact ⟨Nat.le_trans h0 k.1, q, h1, h2, fun w'' k2 => h3 w'' (k.trans k2)⟩
theorem OwC.ext {c : Ct} {B T : Nat} {w w' : World} {L : List Value} (h : OwC c B T w L) (e : Ext w w') : OwC c B T w' L := h.kz (.ext h.1 e)
theorem OwV.ext {n : Nat} {c : Nat → Ct} {B T : Nat} {w w' : World} {v : Value} (h : OwV n c B T w v) (e : Ext w w') : OwV n c B T w' v := h.kz (.ext h.1 e)
theorem OwI.ext {n : Nat} {f : Nat → Int} {B T : Nat} {w w' : World} {v : Value} (h : OwI n f B T w v) (e : Ext w w') : OwI n f B T w' v := h.kz (.ext h.1 e)
theorem OwC.inn {c : Ct} {B T : Nat} {w : World} {L : List Value} (h : OwC c B T w L) : InC c w L := by obtain ⟨-, m, h1, h2⟩ := h; exact ⟨m, h1, (h2 w (.refl _ _ _)).inn⟩
theorem OwV.inn {n : Nat} {c : Nat → Ct} {B T : Nat} {w : World} {v : Value} (h : OwV n c B T w v) : InV n c w v := by obtain ⟨-, q, m, h1, h2⟩ := h; exact ⟨q, m, h1, (h2 w (.refl _ _ _)).1.seg⟩
theorem OwI.inn {n : Nat} {f : Nat → Int} {B T : Nat} {w : World} {v : Value} (h : OwI n f B T w v) : InI n f w v := by obtain ⟨-, q, h1, h2, h3⟩ := h; exact ⟨q, h1, h2, (h3 w (.refl _ _ _)).1.toSeg⟩
def MdV (Z : Nat) (B T : Nat) (w : World) (v : Value) : Prop := T ≤ w.heap.size ∧ ∀ w'', Kz B T w w'' → Calls Tryz.prog 17 #[v, .int .i64 ((1 : Nat) : Int)] w'' fun e W' => e = .returned (.int .i64 (Z : Int)) ∧ Ext w'' W'
theorem MdV.ext {Z B T : Nat} {w w' : World} {v : Value} (h : MdV Z B T w v) (e : Ext w w') : MdV Z B T w' v := ⟨Nat.le_trans h.1 (Below.size e), fun w'' k => h.2 w'' ((Kz.ext h.1 e).trans k)⟩
theorem kp_kz {W w' w'' : World} (k : Kz W.heap.size w'.heap.size w' w'') : Kp W.heap.size w' w'' := k
theorem owc_of {W w' : World} {c : Ct} {m : CtPl} (h : CpCt W w' c m) : OwC c W.heap.size w'.heap.size w' (ctL c m) := ⟨Nat.le_refl _, m, rfl, fun w'' k => h w'' (kp_kz k)⟩
theorem owv_of {W w' : World} {n : Nat} {c : Nat → Ct} {q : Plc} {m : Nat → CtPl} (h : CpCs W w' n c q m) : OwV n c W.heap.size w'.heap.size w' (.slice q.ad n q.cap) := ⟨Nat.le_refl _, q, m, rfl, fun w'' k => h w'' (kp_kz k)⟩
theorem toC_any (c : Ct) (m : CtPl) (w : World) (hI : CtIn w c m) (hS : CtSm c 1048576) : Calls Tryz.prog 7 #[.agg (ctL c m).toArray] w fun e w' => ∃ L, e = .returned (.agg L.toArray) ∧ OwC c w.heap.size w'.heap.size w' L ∧ Ext w w' :=
 (toCertO_any c m w hI hS).mono fun e w' ⟨q, h1, h2, h3⟩ => ⟨_, h1, owc_of h2, h3⟩
theorem toV_any (p : Plc) (n : Nat) (c : Nat → Ct) (m : Nat → CtPl) (w : World) (hs : CSeg w p n c m) (hn : n ≤ 1048576) (hl : ∀ i, i < n → CtSm (c i) 1048576) : Calls Tryz.prog 8 #[.slice p.ad n p.cap] w fun e w' => ∃ v, e = .returned v ∧ OwV n c w.heap.size w'.heap.size w' v ∧ Ext w w' :=
 (toCertSO_any p n c m w hs hn hl).mono fun e w' ⟨q, m', h1, h2, h3⟩ => ⟨_, h1, owv_of h2, h3⟩
theorem toI_any (p : Plc) (n : Nat) (f : Nat → Int) (w : World) (hs : Seg w p.ad p.b p.off n f) (hn : n ≤ 1048576) : Calls Tryz.prog 9 #[.slice p.ad n p.cap] w fun e w' => ∃ v, e = .returned v ∧ OwI n f w.heap.size w'.heap.size w' v ∧ Ext w w' :=
 (toIntS_any p.ad p.b p.off n p.cap f w hs hn).mono fun e w' ⟨h1, h2, h3, h4⟩ => ⟨_, h1, ⟨Nat.le_refl _, ⟨some ⟨w.heap.size, 0, none⟩, w.heap.size, 0, n⟩, rfl, Nat.le_refl _, fun w'' k => ⟨(Own.of_row h3 (Nat.le_refl _)).blkI (fun _ => k.2 _ (Nat.le_refl _) (by omega)), fun _ => ⟨Nat.le_refl _, by show w.heap.size < _; omega⟩⟩⟩, h4⟩
theorem eqC_any (c : Ct) (hS : CtSm c 1048576) (L L' : List Value) (W : World) (h : InC c W L) (h' : InC c W L') : Calls Tryz.prog 12 #[.agg L.toArray, .agg L'.toArray] W fun e w' => e = .returned (.bool true) ∧ Ext W w' := by
 obtain ⟨m, rfl, h1⟩ := h; obtain ⟨m', rfl, h2⟩ := h'; exact eqCert_same c m m' W h1 h2 hS
theorem eqV_any (n : Nat) (c : Nat → Ct) (hn : n ≤ 1048576) (hS : ∀ i, i < n → CtSm (c i) 1048576) (v v' : Value) (W : World) (h : InV n c W v) (h' : InV n c W v') : Calls Tryz.prog 11 #[v, v'] W fun e w' => e = .returned (.bool true) ∧ Ext W w' := by
 obtain ⟨q, m, rfl, h1⟩ := h; obtain ⟨q', m', rfl, h2⟩ := h'; exact eqCertS_same q q' n c m m' W h1 h2 hn hS
theorem eqI_any (n : Nat) (f : Nat → Int) (hn : n ≤ 1048576) (v v' : Value) (W : World) (h : InI n f W v) (h' : InI n f W v') : Calls Tryz.prog 13 #[v, v'] W fun e w' => e = .returned (.bool true) ∧ Ext W w' := by
 obtain ⟨q, rfl, -, h1⟩ := h; obtain ⟨q', rfl, -, h2⟩ := h'; exact eqInts_same q q' n f W h1 h2 hn
def mC (c : Ct) : Nat := c.ni + c.ns + c.k.n + (c.x.nh + preS c.x.ln c.x.nn + c.x.na + c.x.nd + c.x.np) + c.ng
theorem mkC_any (c : Ct) (k0 B T : Nat) (hS : CtSm c 1048576) (hk : k0 + mC c ≤ 1073741824) (L : List Value) (W : World) (h : OwC c B T W L) : Calls Tryz.prog 14 #[.agg L.toArray, .int .i64 (k0 : Int)] W fun e w' => e = .returned (.int .i64 ((k0 + mC c : Nat) : Int)) ∧ Mz B T W w' := by
 obtain ⟨-, m, rfl, h1⟩ := h
 have h2 := h1 W (.refl _ _ _)
 refine (markCertM c m k0 W (fun r hr => h2.own r hr) (fun r r' a b e => h2.sep r r' a b e) hS hk).mono ?_
 rintro e w' ⟨rfl, hM⟩
 exact ⟨rfl, hM.mono (fun q ⟨r, _, hr, hq⟩ => h2.iv r hr q hq.t)⟩
theorem mkV_any (n : Nat) (c : Nat → Ct) (k0 B T : Nat) (hn : n ≤ 1048576) (hS : ∀ i, i < n → CtSm (c i) 1048576) (hk : kn c k0 n ≤ 1073741824) (v : Value) (W : World) (h : OwV n c B T W v) : Calls Tryz.prog 15 #[v, .int .i64 (k0 : Int)] W fun e w' => e = .returned (.int .i64 ((kn c k0 n : Nat) : Int)) ∧ Mz B T W w' := by
 obtain ⟨-, q, m, rfl, h1⟩ := h
 obtain ⟨h2, h3⟩ := h1 W (.refl _ _ _)
 refine Calls.mono (markCertSC q n k0 c m W h2 hn hS hk) ?_
 rintro e w' ⟨rfl, hM, -⟩
 refine ⟨rfl, hM.mono (fun b hb => h3 b ?_)⟩
 rcases hb with h4 | ⟨i, r', h5, h6, h7⟩ | ⟨r', h5, h7⟩
 ·exact .inl h4
 ·exact .inr ⟨i, r', h5, h6, h7.t⟩
 ·omega
theorem mkG_any (n : Nat) (c : Nat → Ct) (B T : Nat) (hn : n ≤ 1048576) (hS : ∀ i, i < n → CtSm (c i) 1048576) (hk : kn c 1 n ≤ 1073741824) (v : Value) (W : World) (h : OwV n c B T W v) : Calls Tryz.prog 15 #[v, .int .i64 ((1 : Nat) : Int)] W fun e w' => e = .returned (.int .i64 ((kn c 1 n : Nat) : Int)) ∧ MdV (kn c 1 n) B T w' v ∧ Mz B T W w' := by
 obtain ⟨h0, q, m, rfl, h1⟩ := h
 obtain ⟨h2, h3⟩ := h1 W (.refl _ _ _)
 refine Calls.mono (markCertSC q n 1 c m W h2 hn hS hk) ?_
 rintro e w' ⟨rfl, hM, hH⟩
 refine ⟨rfl, ⟨Nat.le_trans h0 hM.size, fun w'' k => hH w'' ⟨k.1, fun b hb _ => k.2 b (h3 b hb).1 (h3 b hb).2⟩⟩, hM.mono (fun b hb => h3 b ?_)⟩
 rcases hb with h4 | ⟨i, r', h5, h6, h7⟩ | ⟨r', h5, h7⟩
 ·exact .inl h4
 ·exact .inr ⟨i, r', h5, h6, h7.t⟩
 ·omega
theorem mkI_any (n : Nat) (f : Nat → Int) (k0 B T : Nat) (hn : n ≤ 1048576) (hk : k0 ≤ 1073741824) (v : Value) (W : World) (h : OwI n f B T W v) : Calls Tryz.prog 16 #[v, .int .i64 (k0 : Int)] W fun e w' => e = .returned (.int .i64 ((k0 + n : Nat) : Int)) ∧ Mz B T W w' := by
 obtain ⟨-, q, rfl, -, h1⟩ := h
 obtain ⟨h2, h3⟩ := h1 W (.refl _ _ _)
 refine Calls.mono (markIntC q.ad q.b q.off n q.cap k0 f W h2 hn hk) ?_
 rintro e w' ⟨rfl, hM, -⟩
 exact ⟨rfl, hM.mono (fun b ⟨h4, h5⟩ => by rw [h5]; exact h3 h4)⟩
theorem mC_le (c : Ct) : mC c ≤ wC c := by unfold mC wC wX; omega
theorem szc_sum (c : Ct) : preS (szc c) 34 = 25 + mC c := by
 simp only [preS, szc]
 unfold mC
 omega
theorem preS_mono {f g : Nat → Nat} : ∀ {n : Nat}, (∀ i, i < n → f i ≤ g i) → preS f n ≤ preS g n
 | 0, _ => Nat.le_refl _
 | n + 1, h => Nat.add_le_add (preS_mono (fun i hi => h i (by omega))) (h n (Nat.lt_succ_self _))
theorem preS_add (f : Nat → Nat) (d : Nat) : ∀ n : Nat, preS (fun i => d + f i) n = n * d + preS f n
 | 0 => by simp [preS]
 | n + 1 => by simp only [preS, preS_add f d n, Nat.succ_mul]; omega
theorem kn_le (c : Nat → Ct) (k n : Nat) : kn c k n ≤ k + (n * 25 + preS (fun i => wC (c i)) n) := by
 unfold kn
 refine Nat.add_le_add_left ?_ k
 rw [← preS_add]
 exact preS_mono (fun i _ => by rw [szc_sum]; exact Nat.add_le_add_left (mC_le _) _)
end
section
open Go.RowKit
structure Lst (k : Nat) (c0 : Ct) (np : Nat) (cp : Nat → Ct) (na : Nat) (ca : Nat → Ct) (n : Nat) (f : Nat → Int) (N : Nat) (C : Nat → Ct) (U W : World) (bx : Nat) (L : List Value) (v1 v2 v3 vg : Value) (B T : Nat → Nat) : Prop where
 x : Ext U W
 b : Blk W bx L
 o0 : k ≤ 0 → OwC c0 (B 0) (T 0) W L
 o1 : k ≤ 1 → OwV np cp (B 1) (T 1) W v1
 o2 : k ≤ 2 → OwV na ca (B 2) (T 2) W v2
 o3 : k ≤ 3 → OwI n f (B 3) (T 3) W v3
 og : OwV N C (B 4) (T 4) W vg
 le : ∀ i, i < 5 → B i ≤ T i
 mono : ∀ i, i < 4 → T i ≤ B (i + 1)
 low : U.heap.size ≤ B 0
 top : T 4 ≤ W.heap.size
 bx0 : T 0 ≤ bx
 bx1 : bx < B 1
variable {k : Nat} {c0 : Ct} {np : Nat} {cp : Nat → Ct} {na : Nat} {ca : Nat → Ct} {n : Nat} {f : Nat → Int} {N : Nat} {C : Nat → Ct} {U W W' : World} {bx : Nat} {L : List Value} {v1 v2 v3 vg : Value} {B T : Nat → Nat}
theorem Lst.ap (h : Lst k c0 np cp na ca n f N C U W bx L v1 v2 v3 vg B T) : ∀ d i, i + 1 + d < 5 → T i ≤ B (i + 1 + d)
 | 0, i, hi => h.mono i (by omega)
 | d + 1, i, hi => Nat.le_trans (h.ap d i (by omega)) (Nat.le_trans (h.le (i + 1 + d) (by omega)) (h.mono (i + 1 + d) (by omega)))
theorem Lst.bxs (h : Lst k c0 np cp na ca n f N C U W bx L v1 v2 v3 vg B T) : bx < W.heap.size := by
 have h0 := h.bx1
 have h1 := h.le 1 (by decide)
 have h2 := h.ap 2 1 (by decide)
 have h3 := h.le 4 (by decide)
 have h4 := h.top
 have e : (1 + 1 + 2 : Nat) = 4 := rfl
 rw [e] at h2
 omega
theorem Lst.ext (h : Lst k c0 np cp na ca n f N C U W bx L v1 v2 v3 vg B T) (e : Ext W W') : Lst k c0 np cp na ca n f N C U W' bx L v1 v2 v3 vg B T :=
 ⟨h.x.trans e, h.b.ext e h.bxs, fun k => (h.o0 k).ext e, fun k => (h.o1 k).ext e, fun k => (h.o2 k).ext e, fun k => (h.o3 k).ext e, h.og.ext e, h.le, h.mono, h.low, Nat.le_trans h.top (Below.size e), h.bx0, h.bx1⟩
theorem Lst.mark (h : Lst k c0 np cp na ca n f N C U W bx L v1 v2 v3 vg B T) (hk : k < 4) (e : Mz (B k) (T k) W W') : Lst (k + 1) c0 np cp na ca n f N C U W' bx L v1 v2 v3 vg B T := by
 have hs := h.bxs
 have up : ∀ i, k < i → i < 5 → T k ≤ B i := fun i h1 h2 => by
  have := h.ap (i - k - 1) k (by omega)
  rwa [show k + 1 + (i - k - 1) = i by omega] at this
 have hlow : U.heap.size ≤ B k := by
  by_cases e0 : k = 0
  ·subst e0; exact h.low
  ·have h1 := h.ap (k - 1) 0 (by omega)
   rw [show 0 + 1 + (k - 1) = k by omega] at h1
   exact Nat.le_trans h.low (Nat.le_trans (h.le 0 (by decide)) h1)
 have hb : ¬ (B k ≤ bx ∧ bx < T k) := fun ⟨h1, h2⟩ => by
  by_cases e0 : k = 0
  ·subst e0; have := h.bx0; omega
  ·have h3 := h.bx1
   have h4 : B 1 ≤ B k := by
    by_cases e1 : k = 1
    ·subst e1; exact Nat.le_refl _
    ·have h5 := h.ap (k - 2) 1 (by omega)
     rw [show 1 + 1 + (k - 2) = k by omega] at h5
     exact Nat.le_trans (h.le 1 (by decide)) h5
   omega
 refine ⟨Mz.ext h.x hlow e, fun i v hi => ⟨(World.cell?_of_block (a := ⟨bx, i, none⟩) (e.same bx hs hb)).trans (h.b i v hi).1, (World.frozen?_of_block (a := ⟨bx, i, none⟩) (e.same bx hs hb)).trans (h.b i v hi).2⟩, fun h1 => absurd h1 (by omega), fun h1 => ?_, fun h1 => ?_, fun h1 => ?_, ?_, h.le, h.mono, h.low, Nat.le_trans h.top e.size, h.bx0, h.bx1⟩
 ·exact (h.o1 (by omega)).kz (.msm (h.o1 (by omega)).1 (.inr (up 1 (by omega) (by omega))) e)
 ·exact (h.o2 (by omega)).kz (.msm (h.o2 (by omega)).1 (.inr (up 2 (by omega) (by omega))) e)
 ·exact (h.o3 (by omega)).kz (.msm (h.o3 (by omega)).1 (.inr (up 3 (by omega) (by omega))) e)
 ·exact h.og.kz (.msm h.og.1 (.inr (up 4 (by omega) (by omega))) e)
theorem Lst.bg (h : Lst k c0 np cp na ca n f N C U W bx L v1 v2 v3 vg B T) : U.heap.size ≤ B 4 := by
 have h1 := h.ap 3 0 (by decide)
 exact Nat.le_trans h.low (Nat.le_trans (h.le 0 (by decide)) h1)
structure ChG (w : World) (L0 : List Value) (vp va vi : Value) (c0 : Ct) (np : Nat) (cp : Nat → Ct) (na : Nat) (ca : Nat → Ct) (n : Nat) (f : Nat → Int) (N : Nat) (C : Nat → Ct) (R : Bool) (K1 K2 K3 K4 : Int) (Z : Nat) : Prop where
 tc : ∀ W, Ext w W → Calls Tryz.prog 7 #[.agg L0.toArray] W fun e w' => ∃ L, e = .returned (.agg L.toArray) ∧ OwC c0 W.heap.size w'.heap.size w' L ∧ Ext W w'
 tp : ∀ W, Ext w W → Calls Tryz.prog 8 #[vp] W fun e w' => ∃ v, e = .returned v ∧ OwV np cp W.heap.size w'.heap.size w' v ∧ Ext W w'
 ta : ∀ W, Ext w W → Calls Tryz.prog 8 #[va] W fun e w' => ∃ v, e = .returned v ∧ OwV na ca W.heap.size w'.heap.size w' v ∧ Ext W w'
 ti : ∀ W, Ext w W → Calls Tryz.prog 9 #[vi] W fun e w' => ∃ v, e = .returned v ∧ OwI n f W.heap.size w'.heap.size w' v ∧ Ext W w'
 sp : ∀ (W : World) (L : List Value) (v1 v2 v3 : Value), InC c0 W L → InV np cp W v1 → InV na ca W v2 → InI n f W v3 → Calls Tryz.prog 6 #[.agg L.toArray, v1, v2, v3] W fun e w' => ∃ v, e = .returned (.tuple #[v, .bool R]) ∧ InV N C w' v ∧ Ext W w'
 im : ∀ (W : World) (L : List Value) (v1 v2 v3 : Value), InC c0 W L → InV np cp W v1 → InV na ca W v2 → InI n f W v3 → Calls Tryz.prog 10 #[.agg L.toArray, v1, v2, v3] W fun e w' => ∃ v, e = .returned (.tuple #[v, .bool R]) ∧ OwV N C W.heap.size w'.heap.size w' v ∧ Ext W w'
 ec : ∀ (L L' : List Value) (W : World), InC c0 W L → InC c0 W L' → Calls Tryz.prog 12 #[.agg L.toArray, .agg L'.toArray] W fun e w' => e = .returned (.bool true) ∧ Ext W w'
 ep : ∀ (v v' : Value) (W : World), InV np cp W v → InV np cp W v' → Calls Tryz.prog 11 #[v, v'] W fun e w' => e = .returned (.bool true) ∧ Ext W w'
 ea : ∀ (v v' : Value) (W : World), InV na ca W v → InV na ca W v' → Calls Tryz.prog 11 #[v, v'] W fun e w' => e = .returned (.bool true) ∧ Ext W w'
 eg : ∀ (v v' : Value) (W : World), InV N C W v → InV N C W v' → Calls Tryz.prog 11 #[v, v'] W fun e w' => e = .returned (.bool true) ∧ Ext W w'
 ei : ∀ (v v' : Value) (W : World), InI n f W v → InI n f W v' → Calls Tryz.prog 13 #[v, v'] W fun e w' => e = .returned (.bool true) ∧ Ext W w'
 mc : ∀ (B T : Nat) (L : List Value) (W : World), OwC c0 B T W L → Calls Tryz.prog 14 #[.agg L.toArray, .int .i64 1] W fun e w' => e = .returned (.int .i64 K1) ∧ Mz B T W w'
 mp : ∀ (B T : Nat) (v : Value) (W : World), OwV np cp B T W v → Calls Tryz.prog 15 #[v, .int .i64 K1] W fun e w' => e = .returned (.int .i64 K2) ∧ Mz B T W w'
 ma : ∀ (B T : Nat) (v : Value) (W : World), OwV na ca B T W v → Calls Tryz.prog 15 #[v, .int .i64 K2] W fun e w' => e = .returned (.int .i64 K3) ∧ Mz B T W w'
 mi : ∀ (B T : Nat) (v : Value) (W : World), OwI n f B T W v → Calls Tryz.prog 16 #[v, .int .i64 K3] W fun e w' => e = .returned (.int .i64 K4) ∧ Mz B T W w'
 mg : ∀ (B T : Nat) (v : Value) (W : World), OwV N C B T W v → Calls Tryz.prog 15 #[v, .int .i64 1] W fun e w' => e = .returned (.int .i64 (Z : Int)) ∧ MdV Z B T w' v ∧ Mz B T W w'
 k4 : 0 ≤ K4
theorem MdV.held {Z B T : Nat} {w : World} {v : Value} (h : MdV Z B T w v) : Calls Tryz.prog 17 #[v, .int .i64 1] w fun e w' => e = .returned (.int .i64 (Z : Int)) ∧ Ext w w' := h.2 w (.refl _ _ _)
theorem box_ct (L : List Value) (h : L.length = 34 ∧ ∀ v ∈ L, v.oneCell' = true) (W : World) : ∃ U, (Instr.storeAt 54 (.pointer (some ⟨W.heap.size, 0, none⟩)) (.agg L.toArray)).run Tryz.prog (W.alloc (.cells #[.int .i64 0, .slice none 0 0, .slice none 0 0, .int .i64 0, .int .i64 0, .int .i64 0, .slice none 0 0, .int .i64 0, .int .i64 0, .int .i64 0, .int .i64 0, .int .i64 0, .int .i64 0, .int .i64 0, .int .i64 0, .int .i64 0, .bool false, .int .i64 0, .int .i64 0, .int .i64 0, .int .i64 0, .int .i64 0, .int .i64 0, .int .i64 0, .int .i64 0, .bool false, .int .i64 0, .int .i64 0, .slice none 0 0, .slice none 0 0, .slice none 0 0, .slice none 0 0, .slice none 0 0, .slice none 0 0] 54)) = .ok () U ∧ Blk U W.heap.size L ∧ Ext W U ∧ U.heap.size = W.heap.size + 1 := by
 obtain ⟨hl, ho⟩ := h
 have hB := Blk.alloc W zC 54
 refine ⟨_, run_st (P := Tryz.prog) 54 L _ (by rw [hl]; kernel_rfl) ho W.heap.size 0 (Blk.st hB 0 _ (by rw [hl]; decide)), Blk.putAll1 (vs := L) hB (by rw [hl]; rfl), below_putL (Nat.le_refl _) _ 0 _ (Ext.alloc _ _), ?_⟩
 rw [size_putL]
 simp
theorem ld_ct {L : List Value} (hl : L.length = 34) {b : Nat} {W : World} (hB : Blk W b L) : (loadVar 54 ⟨b, 0, none⟩).run Tryz.prog W = .ok (.agg L.toArray) W :=
 run_ld (P := Tryz.prog) 54 L W (by rw [hl]; kernel_rfl) (by kernel_rfl) b 0 (Blk.ld hB 0 _ (fun j v h => by rw [Nat.zero_add]; exact h))
theorem ld_ctL {L : List Value} (hl : L.length = 34) {b : Nat} {W : World} (hB : Blk W b L) : (loadVar 39 ⟨b, 0, none⟩).run Tryz.prog W = .ok (.agg L.toArray) W :=
 run_ld (P := Tryz.prog) 39 L W (by rw [hl]; kernel_rfl) (by kernel_rfl) b 0 (Blk.ld hB 0 _ (fun j v h => by rw [Nat.zero_add]; exact h))
end
section
open Go.RowKit
set_option maxHeartbeats 25600000 in
set_option maxRecDepth 100000 in
theorem lawChainOf_at (L0 : List Value) (vp va : Value) (iad : Option Addr) (icap : Nat) (c0 : Ct) (np : Nat) (cp : Nat → Ct) (na : Nat) (ca : Nat → Ct) (n : Nat) (f : Nat → Int) (N : Nat) (C : Nat → Ct) (R : Bool) (K1 K2 K3 K4 : Int) (Z : Nat) (A1 : Int → Prop) (A2 A3 : Int → Int → Prop) (w : World) (hL : L0.length = 34) (hn : n ≤ 1048576)
  (HS1 : Hid (∀ W, Ext w W → Calls Tryz.prog 4 #[.agg L0.toArray, .int .i64 1048576] W fun e w' => (∃ z : Int, e = .returned (.int .i64 z) ∧ -1 ≤ z ∧ z ≤ 1048576 ∧ (0 ≤ z → A1 z)) ∧ Ext W w'))
  (HS2 : Hid (∀ z, 0 ≤ z → z ≤ 1048576 → ∀ W, Ext w W → Calls Tryz.prog 5 #[vp, .int .i64 z] W fun e w' => (∃ y : Int, e = .returned (.int .i64 y) ∧ -1 ≤ y ∧ y ≤ z ∧ (0 ≤ y → A2 z y)) ∧ Ext W w'))
  (HS3 : Hid (∀ z, 0 ≤ z → z ≤ 1048576 → ∀ W, Ext w W → Calls Tryz.prog 5 #[va, .int .i64 z] W fun e w' => (∃ y : Int, e = .returned (.int .i64 y) ∧ -1 ≤ y ∧ y ≤ z ∧ (0 ≤ y → A3 z y)) ∧ Ext W w'))
  (HGo : Hid (∀ z1 z2 z3, 0 ≤ z3 → A1 z1 → A2 z1 z2 → A3 z2 z3 → ChG w L0 vp va (.slice iad n icap) c0 np cp na ca n f N C R K1 K2 K3 K4 Z)) :
  Calls Tryz.prog 3 #[.agg L0.toArray, vp, va, .slice iad n icap] w fun e w' => e = .returned (.bool true) ∧ Ext w w' := by
 obtain ⟨V, hV⟩ : ∃ V, w.alloc (.cells L0.toArray 39) = V := ⟨_, rfl⟩
 obtain ⟨B0, hE, -⟩ := box1 w L0 39 (w1 := V) (by rw [← hV]; exact Ext.refl _)
 have hlt := Blk.lt B0 (by omega)
 have HLd : Hid (∀ W, Ext V W → (loadVar 39 ⟨w.heap.size, 0, none⟩).run Tryz.prog W = .ok (.agg L0.toArray) W) := hide (fun W h => ld_ctL hL (B0.ext h hlt))
 have HLr : Hid (∀ (W : World), Ext V W → ∀ q : ReC (fun _ => False) W, (loadVar 39 ⟨w.heap.size, 0, none⟩).run Tryz.prog q.val = .ok (.agg L0.toArray) q.val) := hide (fun W h q => ld_ctL hL (blk_reC (B0.ext h hlt) (Nat.lt_of_lt_of_le hlt (Below.size h)) q))
 have HE := hide hE
 have hz : ¬ (1048576 : Int) < (n : Int) := by omega
 have hz2 : ¬ (n : Int) > (1048576 : Int) := by omega
 have hldL := HLd.out V (Ext.refl _)
 have HX := hide (Ext.refl V)
 clear B0 hE hlt hL
 go_enter Tryz.func3, Tryz.ntmps3
 go_wp2_with (refine wpList_ld (by first | rfl | simp [Region.wanted, yielded]) 39 _ rfl _ rfl _ hldL ?_)
 refine (HS1.out _ HE.out).mono ?_
 rintro e w1 ⟨⟨z1, rfl, a1, b1, hA1⟩, hE⟩
 have HA1 := hide hA1
 replace HX := hide (HX.out.trans hE)
 clear hE hldL HS1 hA1
 by_cases g1 : z1 < 0
 ·go_wp2
  go_ret
  exact ⟨rfl, HE.out.trans HX.out⟩
 go_wp2_with fail
 refine (HS2.out z1 (by omega) (by omega) _ (HE.out.trans HX.out)).mono ?_
 rintro e w2 ⟨⟨z2, rfl, a2, b2, hA2⟩, hE⟩
 have HA2 := hide hA2
 replace HX := hide (HX.out.trans hE)
 clear hE HS2 hA2
 by_cases g2 : z2 < 0
 ·go_wp2
  go_ret
  exact ⟨rfl, HE.out.trans HX.out⟩
 go_wp2_with fail
 refine (HS3.out z2 (by omega) (by omega) _ (HE.out.trans HX.out)).mono ?_
 rintro e w3 ⟨⟨z3, rfl, a3, b3, hA3⟩, hE⟩
 have HA3 := hide hA3
 replace HX := hide (HX.out.trans hE)
 clear hE HS3 hA3
 by_cases g3 : z3 < 0
 ·go_wp2
  go_ret
  exact ⟨rfl, HE.out.trans HX.out⟩
 have HG := hide (HGo.out z1 z2 z3 (by omega) (HA1.out (by omega)) (HA2.out (by omega)) (HA3.out (by omega)))
 have hldL := HLd.out _ HX.out
 have hne1 : (R != R) = false := by simp
 have hK4 : ¬ K4 < 0 := by have := HG.out.k4; omega
 have HK4 := hide hK4
 clear HGo HA1 HA2 HA3 a1 b1 a2 b2 a3 b3 hK4 hn
 go_wp2_with (refine wpList_ld (by first | rfl | simp [Region.wanted, yielded]) 39 _ rfl _ rfl _ hldL ?_)
 refine (HG.out.tc _ (HE.out.trans HX.out)).mono ?_
 rintro e W ⟨L1, rfl, h, hE⟩
 replace HX := hide (HX.out.trans hE)
 have I0 := hide h.inn
 clear h hE hldL
 go_wp2_with fail
 refine (HG.out.tp _ (HE.out.trans HX.out)).mono ?_
 rintro e W ⟨v1, rfl, h, hE⟩
 replace HX := hide (HX.out.trans hE)
 replace I0 := hide (I0.out.ext hE)
 have I1 := hide h.inn
 clear h hE
 go_wp2_with fail
 refine (HG.out.ta _ (HE.out.trans HX.out)).mono ?_
 rintro e W ⟨v2, rfl, h, hE⟩
 replace HX := hide (HX.out.trans hE)
 replace I0 := hide (I0.out.ext hE)
 replace I1 := hide (I1.out.ext hE)
 have I2 := hide h.inn
 clear h hE
 go_wp2_with fail
 refine (HG.out.ti _ (HE.out.trans HX.out)).mono ?_
 rintro e W ⟨v3, rfl, h, hE⟩
 replace HX := hide (HX.out.trans hE)
 replace I0 := hide (I0.out.ext hE)
 replace I1 := hide (I1.out.ext hE)
 replace I2 := hide (I2.out.ext hE)
 have I3 := hide h.inn
 clear h hE
 go_wp2_with fail
 refine (HG.out.sp _ _ _ _ _ I0.out I1.out I2.out I3.out).mono ?_
 rintro e U ⟨vw, rfl, h, hE⟩
 replace HX := hide (HX.out.trans hE)
 have HW := hide h
 have hldL := HLd.out _ HX.out
 clear h hE I0 I1 I2 I3
 have HU := HX
 replace HX := hide (Ext.refl U)
 go_wp2_with (refine wpList_ld (by first | rfl | simp [Region.wanted, yielded]) 39 _ rfl _ rfl _ hldL ?_)
 refine (HG.out.tc _ (HE.out.trans HU.out)).mono ?_
 rintro e W0 ⟨L, rfl, h, hE⟩
 obtain ⟨U0, hst, hB, hE0, hs0⟩ := box_ct L h.inn.len W0
 have HLn := hide h.inn.len.1
 have HB := hide hB
 have O0 := hide (h.ext hE0)
 replace HX := hide (hE.trans hE0)
 have q0 := Below.size hE
 have HQ := hide (And.intro q0 hs0)
 clear h hE hldL hB hE0 hs0 q0
 go_wp2_with (refine wpList_st (by first | rfl | simp [Region.wanted, yielded]) 54 _ _ rfl _ rfl _ rfl _ hst ?_)
 clear hst
 refine (HG.out.tp _ (HE.out.trans (HU.out.trans HX.out))).mono ?_
 rintro e W1 ⟨v1, rfl, O1, hE⟩
 replace HX := hide (HX.out.trans hE)
 have Q1 := hide (Below.size hE)
 replace O0 := hide (O0.out.ext hE)
 replace HB := hide (HB.out.ext hE (by have := HQ.out; omega))
 replace O1 := hide O1
 clear hE
 go_wp2_with fail
 refine (HG.out.ta _ (HE.out.trans (HU.out.trans HX.out))).mono ?_
 rintro e W2 ⟨v2, rfl, O2, hE⟩
 replace HX := hide (HX.out.trans hE)
 have Q2 := hide (Below.size hE)
 replace O0 := hide (O0.out.ext hE)
 replace O1 := hide (O1.out.ext hE)
 replace HB := hide (HB.out.ext hE (by have := HQ.out; have := Q1.out; omega))
 replace O2 := hide O2
 clear hE
 go_wp2_with fail
 refine (HG.out.ti _ (HE.out.trans (HU.out.trans HX.out))).mono ?_
 rintro e W3 ⟨v3, rfl, O3, hE⟩
 replace HX := hide (HX.out.trans hE)
 have Q3 := hide (Below.size hE)
 replace O0 := hide (O0.out.ext hE)
 replace O1 := hide (O1.out.ext hE)
 replace O2 := hide (O2.out.ext hE)
 replace HB := hide (HB.out.ext hE (by have := HQ.out; have := Q1.out; have := Q2.out; omega))
 replace O3 := hide O3
 have hldC := ld_ct HLn.out HB.out
 clear hE
 go_wp2_with (refine wpList_ld (by first | rfl | simp [Region.wanted, yielded]) 54 _ rfl _ rfl _ hldC ?_)
 refine (HG.out.im _ _ _ _ _ O0.out.inn O1.out.inn O2.out.inn O3.out.inn).mono ?_
 rintro e W4 ⟨vg, rfl, og, hE⟩
 have HSt : Hid (∃ B T : Nat → Nat, Lst 0 c0 np cp na ca n f N C U W4 W0.heap.size L v1 v2 v3 vg B T) := hide (by
  have q0 := HQ.out
  have q1 := Q1.out
  have q2 := Q2.out
  have q3 := Q3.out
  have q4 := Below.size hE
  refine ⟨fun i => [U.heap.size, U0.heap.size, W1.heap.size, W2.heap.size, W3.heap.size].getD i 0, fun i => [W0.heap.size, W1.heap.size, W2.heap.size, W3.heap.size, W4.heap.size].getD i 0, HX.out.trans hE, HB.out.ext hE (by omega), fun _ => O0.out.ext hE, fun _ => O1.out.ext hE, fun _ => O2.out.ext hE, fun _ => O3.out.ext hE, og, fun i hi => ?_, fun i hi => ?_, Nat.le_refl _, Nat.le_refl _, Nat.le_refl _, ?_⟩
  ·have e : i = 0 ∨ i = 1 ∨ i = 2 ∨ i = 3 ∨ i = 4 := by omega
   rcases e with rfl | rfl | rfl | rfl | rfl <;> (simp; omega)
  ·have e : i = 0 ∨ i = 1 ∨ i = 2 ∨ i = 3 := by omega
   rcases e with rfl | rfl | rfl | rfl <;> (simp <;> omega)
  ·show W0.heap.size < U0.heap.size
   omega)
 clear hE og hldC O0 O1 O2 O3 HB HQ Q1 Q2 Q3 HX
 obtain ⟨B, T, hSt⟩ := HSt.out
 replace HSt := hide hSt
 clear hSt
 generalize W0.heap.size = bx at *
 go_wp2_with fail
 refine (HG.out.eg _ _ _ HSt.out.og.inn (HW.out.ext HSt.out.x)).mono ?_
 rintro e W5 ⟨rfl, hE⟩
 replace HSt := hide (HSt.out.ext hE)
 clear hE
 go_wp2_with fail
 refine anyK_begin (fun _ => False) 5 rfl (by kernel_rfl) ?_
 refine anyK_take 0 2 3 rfl (by decide) (by kernel_rfl) (fun _ _ d _ _ h => by cases d <;> exact h) ?_
 refine head_ld (by first | rfl | simp [Region.wanted, yielded]) rfl rfl (fun q => ld_ct HLn.out (blk_reC HSt.out.b HSt.out.bxs q)) ?_
 refine head_ld (by first | rfl | simp [Region.wanted, yielded]) rfl rfl (fun q => HLr.out _ (HU.out.trans HSt.out.x) q) ?_
 refine headC_nil ?_
 refine anyK_one 2 (by kernel_rfl) ?_
 refine stepK_run rfl ?_
 intro w8 h8 K hKK
 go_simp
 refine (HG.out.tc _ (HE.out.trans (HU.out.trans (HSt.out.x.trans h8)))).mono ?_
 rintro e w9 ⟨L9, rfl, hs9, hE9⟩
 have HX := hide (Ext.trans h8 hE9)
 have I9 := hide hs9.inn
 go_simp
 refine hKK _ _ (Grw.of_ext HX.out) ?_
 clear hKK K h8 hE9 hs9
 refine anyK_one 3 (by kernel_rfl) ?_
 refine stepK_run rfl ?_
 intro w10 h10 K hKK
 go_simp
 refine (HG.out.ec _ _ _ (((HSt.out.o0 (Nat.le_refl _)).inn.ext HX.out).ext h10) (I9.out.ext h10)).mono ?_
 rintro e w11 ⟨rfl, hE11⟩
 replace HX := hide (Ext.trans HX.out (Ext.trans h10 hE11))
 go_simp
 refine hKK _ _ (Grw.of_ext HX.out) ?_
 clear hKK K h10 hE11 I9
 refine anyK_one 4 (by kernel_rfl) ?_
 refine stepK_run rfl ?_
 intro w12 h12 K hKK
 replace HX := hide (Ext.trans HX.out h12)
 go_simp
 refine hKK _ _ (Grw.of_ext HX.out) ?_
 clear hKK K h12
 refine anyK_done (by kernel_rfl) ?_ 0
 intro W6 h13
 replace HSt := hide (HSt.out.ext (HX.out.trans h13))
 clear h13 HX
 go_wp2_with fail
 refine (HG.out.tp _ (HE.out.trans (HU.out.trans HSt.out.x))).mono ?_
 rintro e W7 ⟨vv, rfl, h, hE⟩
 replace HSt := hide (HSt.out.ext hE)
 have I9 := hide h.inn
 clear h hE
 go_wp2_with fail
 refine (HG.out.ep _ _ _ (HSt.out.o1 (Nat.zero_le _)).inn I9.out).mono ?_
 rintro e W8 ⟨rfl, hE⟩
 replace HSt := hide (HSt.out.ext hE)
 clear hE I9
 go_wp2_with fail
 refine (HG.out.ta _ (HE.out.trans (HU.out.trans HSt.out.x))).mono ?_
 rintro e W9 ⟨vv, rfl, h, hE⟩
 replace HSt := hide (HSt.out.ext hE)
 have I9 := hide h.inn
 clear h hE
 go_wp2_with fail
 refine (HG.out.ea _ _ _ (HSt.out.o2 (Nat.zero_le _)).inn I9.out).mono ?_
 rintro e W10 ⟨rfl, hE⟩
 replace HSt := hide (HSt.out.ext hE)
 clear hE I9
 go_wp2_with fail
 refine (HG.out.ti _ (HE.out.trans (HU.out.trans HSt.out.x))).mono ?_
 rintro e W11 ⟨vv, rfl, h, hE⟩
 replace HSt := hide (HSt.out.ext hE)
 have I9 := hide h.inn
 clear h hE
 go_wp2_with fail
 refine (HG.out.ei _ _ _ (HSt.out.o3 (Nat.zero_le _)).inn I9.out).mono ?_
 rintro e W12 ⟨rfl, hE⟩
 replace HSt := hide (HSt.out.ext hE)
 clear hE I9
 have hldC := ld_ct HLn.out HSt.out.b
 go_wp2_with (refine wpList_ld (by first | rfl | simp [Region.wanted, yielded]) 54 _ rfl _ rfl _ hldC ?_)
 refine (HG.out.mc _ _ _ _ (HSt.out.o0 (Nat.le_refl _))).mono ?_
 rintro e W13 ⟨rfl, hM⟩
 replace HSt := hide (HSt.out.mark (by decide) hM)
 clear hM hldC
 go_wp2_with fail
 refine (HG.out.mp _ _ _ _ (HSt.out.o1 (Nat.le_refl _))).mono ?_
 rintro e W14 ⟨rfl, hM⟩
 replace HSt := hide (HSt.out.mark (by decide) hM)
 clear hM
 go_wp2_with fail
 refine (HG.out.ma _ _ _ _ (HSt.out.o2 (Nat.le_refl _))).mono ?_
 rintro e W15 ⟨rfl, hM⟩
 replace HSt := hide (HSt.out.mark (by decide) hM)
 clear hM
 go_wp2_with fail
 refine (HG.out.mi _ _ _ _ (HSt.out.o3 (Nat.le_refl _))).mono ?_
 rintro e W16 ⟨rfl, hM⟩
 replace HSt := hide (HSt.out.mark (by decide) hM)
 clear hM
 have hK4 := HK4.out
 go_wp2_with fail
 refine (HG.out.eg _ _ _ HSt.out.og.inn (HW.out.ext HSt.out.x)).mono ?_
 rintro e W17 ⟨rfl, hE⟩
 replace HSt := hide (HSt.out.ext hE)
 clear hE
 clear hK4
 go_wp2_with fail
 refine (HG.out.mg _ _ _ _ HSt.out.og).mono ?_
 rintro e Wa ⟨rfl, hm, hM⟩
 have HM := hide hm
 have HX : Hid (Ext U Wa) := hide (Mz.ext HSt.out.x HSt.out.bg hM)
 have hZ0 : ¬ (Z : Int) < 0 := by omega
 have hne2 : ((Z : Int) != (Z : Int)) = false := by simp
 clear hm hM HSt HLn
 go_wp2_with fail
 refine HM.out.held.mono ?_
 rintro e Wb ⟨rfl, hE⟩
 replace HM := hide (HM.out.ext hE)
 replace HX := hide (HX.out.trans hE)
 have hldL := HLd.out _ (HU.out.trans HX.out)
 clear hE
 go_wp2_with (refine wpList_ld (by first | rfl | simp [Region.wanted, yielded]) 39 _ rfl _ rfl _ hldL ?_)
 refine (HG.out.tc _ (HE.out.trans (HU.out.trans HX.out))).mono ?_
 rintro e Wc ⟨L1, rfl, h, hE⟩
 replace HM := hide (HM.out.ext hE)
 replace HX := hide (HX.out.trans hE)
 have I0 := hide h.inn
 clear h hE hldL
 go_wp2_with fail
 refine (HG.out.tp _ (HE.out.trans (HU.out.trans HX.out))).mono ?_
 rintro e WI1 ⟨vI1, rfl, h, hE⟩
 replace HM := hide (HM.out.ext hE)
 replace HX := hide (HX.out.trans hE)
 replace I0 := hide (I0.out.ext hE)
 have I1 := hide h.inn
 clear h hE
 go_wp2_with fail
 refine (HG.out.ta _ (HE.out.trans (HU.out.trans HX.out))).mono ?_
 rintro e WI2 ⟨vI2, rfl, h, hE⟩
 replace HM := hide (HM.out.ext hE)
 replace HX := hide (HX.out.trans hE)
 replace I0 := hide (I0.out.ext hE)
 replace I1 := hide (I1.out.ext hE)
 have I2 := hide h.inn
 clear h hE
 go_wp2_with fail
 refine (HG.out.ti _ (HE.out.trans (HU.out.trans HX.out))).mono ?_
 rintro e WI3 ⟨vI3, rfl, h, hE⟩
 replace HM := hide (HM.out.ext hE)
 replace HX := hide (HX.out.trans hE)
 replace I0 := hide (I0.out.ext hE)
 replace I1 := hide (I1.out.ext hE)
 replace I2 := hide (I2.out.ext hE)
 have I3 := hide h.inn
 clear h hE
 go_wp2_with fail
 refine (HG.out.im _ _ _ _ _ I0.out I1.out I2.out I3.out).mono ?_
 rintro e Wd ⟨vh, rfl, h, hE⟩
 replace HM := hide (HM.out.ext hE)
 replace HX := hide (HX.out.trans hE)
 have IH := hide h.inn
 clear h hE I0 I1 I2 I3
 go_wp2_with fail
 refine (HG.out.eg _ _ _ IH.out (HW.out.ext HX.out)).mono ?_
 rintro e We ⟨rfl, hE⟩
 replace HM := hide (HM.out.ext hE)
 replace HX := hide (HX.out.trans hE)
 clear hE IH
 go_wp2_with fail
 refine HM.out.held.mono ?_
 rintro e Wf ⟨rfl, hE⟩
 replace HX := hide (HX.out.trans hE)
 clear hE
 go_wp2
 go_ret
 exact ⟨rfl, HE.out.trans (HU.out.trans HX.out)⟩
end
end Go.Proofs.YtfhiiakoilkbkaaGreatDoor
