/- Walks: Digest of the model and of the program, whatever the stream; markStream. -/
import Derived.Test.YthgdempjpndhgaaShaE
import Derived.Test.YthgdempjpndhgaaStrL
import Derived.Test.YthgdempjpndhgaaBMarks
namespace Go.Proofs.Ythgdempjpndhgaa
set_option linter.unusedVariables false
set_option linter.unusedSimpArgs false
open Go.RowKit

/-- How many bytes Digest tells. -/
def digN (ok : Bool) : Nat := if ok then 32 else 0

set_option maxHeartbeats 1600000 in
set_option maxRecDepth 100000 in
theorem implDigest_no (h : Nat → Int) (r : Option Addr) (n cap : Nat) (F : Nat → Int) (many : Int) (w : World) (hok : ¬ StrOk h n many) : Calls Try.prog 34 #[.agg #[.int .i64 (h 0), .int .i64 (h 1), .int .i64 (h 2), .int .i64 (h 3), .int .i64 (h 4), .int .i64 (h 5), .int .i64 (h 6), .int .i64 (h 7), .slice r n cap, .int .i64 many]] w fun e w' => GivesBs w 0 F e w' := by
  have HO := hide (implStreamOk_at h r n cap many false ⟨(fun e => by cases e), fun e => absurd e hok⟩)
  go_enter Try.func34, Try.ntmps34
  go_wp2_with fail
  refine (HO.out _).mono ?_
  rintro e w1 ⟨rfl, h1⟩
  have HE : Hid (Ext w w1) := hide ((Ext.alloc _ _).trans h1)
  clear HO h1
  go_wp2
  go_ret
  exact ⟨_, w1.heap.size, _, rfl, Below.size HE.out, BOwn.nil _ _ _ _ _, HE.out.trans (Ext.alloc _ _)⟩

set_option maxHeartbeats 1600000 in
set_option maxRecDepth 100000 in
theorem specDigest_no (h : Nat → Int) (r : Option Addr) (n cap : Nat) (F : Nat → Int) (many : Int) (w : World) (hok : ¬ StrOk h n many) : Calls Try.prog 33 #[.agg #[.int .i64 (h 0), .int .i64 (h 1), .int .i64 (h 2), .int .i64 (h 3), .int .i64 (h 4), .int .i64 (h 5), .int .i64 (h 6), .int .i64 (h 7), .slice r n cap, .int .i64 many]] w fun e w' => GivesBs w 0 F e w' := by
  have HO := hide (specStreamOk_at h r n cap many false ⟨(fun e => by cases e), fun e => absurd e hok⟩)
  go_enter Try.func33, Try.ntmps33
  go_wp2_with fail
  refine (HO.out _).mono ?_
  rintro e w1 ⟨rfl, h1⟩
  have HE : Hid (Ext w w1) := hide ((Ext.alloc _ _).trans h1)
  clear HO h1
  go_wp2
  go_ret
  exact ⟨_, w1.heap.size, _, rfl, Below.size HE.out, BOwn.nil _ _ _ _ _, HE.out.trans (Ext.alloc _ _)⟩

set_option maxHeartbeats 1600000 in
set_option maxRecDepth 100000 in
theorem specDigest_yes (h : Nat → Int) (r : Option Addr) (b off n cap : Nat) (f : Nat → Int) (many : Nat) (w : World) (hok : StrOk h n many) (hs : BSeg w r b off n f) (hby : ∀ i, i < n → 0 ≤ f i ∧ f i < 256) :
    Calls Try.prog 33 #[.agg #[.int .i64 (h 0), .int .i64 (h 1), .int .i64 (h 2), .int .i64 (h 3), .int .i64 (h 4), .int .i64 (h 5), .int .i64 (h 6), .int .i64 (h 7), .slice r n cap, .int .i64 (many : Int)]] w fun e w' => GivesR w 32 (stB (endV h f n many)) e w' := by
  have HO := hide (specStreamOk_at h r n cap many true ⟨fun _ => hok, fun _ => rfl⟩)
  have hb := hok.2
  have h8 : ∀ i, i < 8 → 0 ≤ h i ∧ h i < 4294967296 := fun i hi => by have := hok.1 i hi; omega
  have HD : Hid (∀ w', Ext w w' → Calls Try.prog 61 #[.agg #[.int .i64 (h 0), .int .i64 (h 1), .int .i64 (h 2), .int .i64 (h 3), .int .i64 (h 4), .int .i64 (h 5), .int .i64 (h 6), .int .i64 (h 7), .slice r n cap, .int .i64 (many : Int)]] w' fun e w'' => GivesR w' 32 (stB (endV h f n many)) e w'') := hide (fun w' he => by
    refine (l5Digest_any h r b off n cap f many w' h8 (by omega) (by omega) (hs.of_all he) hby).mono ?_
    rintro e w'' ⟨v, rfl, hO, hE⟩
    exact ⟨v, rfl, owns_congr hO (stB_end h f n many h8), hE⟩)
  clear hb h8 hs hby hok
  go_enter Try.func33, Try.ntmps33
  go_wp2_with fail
  refine (HO.out _).mono ?_
  rintro e w1 ⟨rfl, h1⟩
  obtain ⟨B1, hE, hz⟩ := box1 w [.int .i64 (h 0), .int .i64 (h 1), .int .i64 (h 2), .int .i64 (h 3), .int .i64 (h 4), .int .i64 (h 5), .int .i64 (h 6), .int .i64 (h 7), .slice r n cap, .int .i64 (many : Int)] 39 h1
  have c0 := (B1 0 _ rfl).1
  have c1 := (B1 1 _ rfl).1
  have c2 := (B1 2 _ rfl).1
  have c3 := (B1 3 _ rfl).1
  have c4 := (B1 4 _ rfl).1
  have c5 := (B1 5 _ rfl).1
  have c6 := (B1 6 _ rfl).1
  have c7 := (B1 7 _ rfl).1
  have c8 := (B1 8 _ rfl).1
  have c9 := (B1 9 _ rfl).1
  have HE := hide hE
  clear HO h1 B1 hE hz
  go_wp2_with fail
  refine (HD.out _ HE.out).mono ?_
  rintro e w2 ⟨v, rfl, hO, h2⟩
  have HO2 := hide (owns_mono hO (Below.size HE.out))
  have HE2 : Hid (Ext w w2) := hide (HE.out.trans h2)
  clear hO h2 HE HD c0 c1 c2 c3 c4 c5 c6 c7 c8 c9
  go_wp2
  go_ret
  exact ⟨_, rfl, HO2.out, HE2.out⟩

theorem implDigest_at (h : Nat → Int) (r : Option Addr) (b off n cap : Nat) (f : Nat → Int) (many : Int) (ok : Bool) (hk : ok = true ↔ StrOk h n many) (w : World) (hs : BSeg w r b off n f) (hby : ∀ i, i < n → 0 ≤ f i ∧ f i < 256) :
    Calls Try.prog 34 #[.agg #[.int .i64 (h 0), .int .i64 (h 1), .int .i64 (h 2), .int .i64 (h 3), .int .i64 (h 4), .int .i64 (h 5), .int .i64 (h 6), .int .i64 (h 7), .slice r n cap, .int .i64 many]] w fun e w' => GivesBs w (digN ok) (stB (endV h f n many.toNat)) e w' := by
  cases ok with
  | false => exact implDigest_no h r n cap _ many w (fun q => by have := hk.2 q; cases this)
  | true =>
    have hok := hk.1 rfl
    obtain ⟨m, rfl⟩ := Int.eq_ofNat_of_zero_le hok.2.1
    exact (digest_yes h r b off n cap f m w hok hs hby).mono (fun _ _ k => k.bs)

theorem specDigest_at (h : Nat → Int) (r : Option Addr) (b off n cap : Nat) (f : Nat → Int) (many : Int) (ok : Bool) (hk : ok = true ↔ StrOk h n many) (w : World) (hs : BSeg w r b off n f) (hby : ∀ i, i < n → 0 ≤ f i ∧ f i < 256) :
    Calls Try.prog 33 #[.agg #[.int .i64 (h 0), .int .i64 (h 1), .int .i64 (h 2), .int .i64 (h 3), .int .i64 (h 4), .int .i64 (h 5), .int .i64 (h 6), .int .i64 (h 7), .slice r n cap, .int .i64 many]] w fun e w' => GivesBs w (digN ok) (stB (endV h f n many.toNat)) e w' := by
  cases ok with
  | false => exact specDigest_no h r n cap _ many w (fun q => by have := hk.2 q; cases this)
  | true =>
    have hok := hk.1 rfl
    obtain ⟨m, rfl⟩ := Int.eq_ofNat_of_zero_le hok.2.1
    exact (specDigest_yes h r b off n cap f m w hok hs hby).mono (fun _ _ k => k.bs)

theorem BSeg.grw {X : Nat → Prop} {w w' : World} {a : Option Addr} {b off n : Nat} {f : Nat → Int} (h : BSeg w a b off n f) (g : Grw X w w') (hx : 0 < n → ¬ X b) : BSeg w' a b off n f :=
  ⟨h.at', fun i hi => (World.cell?_of_block (a := ⟨b, off + i, none⟩) (g.block b (h.lt (by omega)) (hx (by omega)))).trans (h.cell i hi)⟩
theorem BOwn.grw {X : Nat → Prop} {w w' : World} {a : Option Addr} {b off n : Nat} {f : Nat → Int} (h : BOwn w a b off n f) (g : Grw X w w') (hx : 0 < n → ¬ X b) : BOwn w' a b off n f :=
  ⟨h.toBSeg.grw g hx, fun i hi => (World.frozen?_of_block (a := ⟨b, off + i, none⟩) (g.block b (h.toBSeg.lt (by omega)) (hx (by omega)))).trans (h.free i hi)⟩
theorem Blk.grw {X : Nat → Prop} {w w' : World} {C : Nat} {vs : List Value} (h : Blk w C vs) (g : Grw X w w') (hl : C < w.heap.size) (hx : ¬ X C) : Blk w' C vs := fun i v hi =>
  ⟨(World.cell?_of_block (a := ⟨C, i, none⟩) (g.block C hl hx)).trans (h i v hi).1, (World.frozen?_of_block (a := ⟨C, i, none⟩) (g.block C hl hx)).trans (h i v hi).2⟩

set_option maxHeartbeats 1600000 in
set_option maxRecDepth 100000 in
theorem markStream_any (h0 h1 h2 h3 h4 h5 h6 h7 : Int) (g n : Nat) (f : Nat → Int) (many : Int) (w : World) (hs : BOwn w (some ⟨g, 0, none⟩) g 0 n f) (hg : g < w.heap.size) (hn : n ≤ 1048576) :
    Calls Try.prog 31 #[.agg #[.int .i64 h0, .int .i64 h1, .int .i64 h2, .int .i64 h3, .int .i64 h4, .int .i64 h5, .int .i64 h6, .int .i64 h7, .slice (some ⟨g, 0, none⟩) n n, .int .i64 many], .int .i64 1] w fun e w' => e = .returned (.int .i64 (1 + n)) ∧ Grw (fun k => k = g) w w' := by
  have HM : Hid (∀ w, BOwn w (some ⟨g, 0, none⟩) g 0 n f → Calls Try.prog 24 #[.slice (some ⟨g, 0, none⟩) n n, .int .i64 1] w fun e w' => e = .returned (.int .i64 (1 + n)) ∧ Touch g w w') := hide (fun w h => (markByteS_any _ g 0 n n f 1 w h hn (by omega) (by omega)).mono (fun _ _ k => ⟨k.1, k.2.2⟩))
  have HS := hide hs
  clear hs
  go_enter Try.func31, Try.ntmps31
  go_wp2_with fail
  refine (HM.out _ (HS.out.of_all (Ext.alloc _ _))).mono ?_
  rintro e w1 ⟨rfl, hT⟩
  have HG : Hid (Grw (fun k => k = g) w w1) := hide ((Grw.of_ext (Ext.alloc _ _)).trans (Grw.of_touch hT rfl))
  clear HM HS hT
  go_wp2
  go_ret
  exact ⟨rfl, HG.out⟩

end Go.Proofs.Ythgdempjpndhgaa
