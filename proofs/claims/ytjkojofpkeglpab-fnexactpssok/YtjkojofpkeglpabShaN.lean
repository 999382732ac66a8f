/- SHA-256 in plain numbers: words are numbers below 2^32, lists are functions. -/
import Derived.Test.YtjkojofpkeglpabStrX
namespace Go.Proofs.Ytjkojofpkeglpab
set_option linter.unusedVariables false
set_option linter.unusedSimpArgs false
open Go.RowKit

theorem bits_u32_lo (op : BinOp) (a b : Int) : 0 ≤ bits op .u32 a b := by
  unfold bits; rw [IntKind.wrap_u32]; omega
theorem bits_u32_hi (op : BinOp) (a b : Int) : bits op .u32 a b < 4294967296 := by
  unfold bits; rw [IntKind.wrap_u32]; omega
theorem bits_u32_or_comm (a b : Int) : bits .or .u32 a b = bits .or .u32 b a := by
  show IntKind.u32.wrap ((BitVec.ofInt 32 a ||| BitVec.ofInt 32 b).toNat : Int) = IntKind.u32.wrap ((BitVec.ofInt 32 b ||| BitVec.ofInt 32 a).toNat : Int)
  rw [BitVec.or_comm]

/-- A word x turned n places to the right. -/
def turnV (x : Int) (n : Nat) : Int := bits .or .u32 (x / 2 ^ n) (x * 2 ^ (32 - n) % 4294967296)
theorem turnV_other (x : Int) (n : Nat) : bits .or .u32 (x * 2 ^ (32 - n) % 4294967296) (x / 2 ^ n) = turnV x n := bits_u32_or_comm _ _

/-- Three words, each with each: 'x ^ y ^ z'. -/
def xor3 (x y z : Int) : Int := bits .xor .u32 (bits .xor .u32 x y) z
theorem xor3_lo (x y z : Int) : 0 ≤ xor3 x y z := bits_u32_lo _ _ _
theorem xor3_hi (x y z : Int) : xor3 x y z < 4294967296 := bits_u32_hi _ _ _
def big1 (e : Int) : Int := xor3 (turnV e 6) (turnV e 11) (turnV e 25)
def big0 (a : Int) : Int := xor3 (turnV a 2) (turnV a 13) (turnV a 22)
def small0 (x : Int) : Int := xor3 (turnV x 7) (turnV x 18) (x / 2 ^ 3)
def small1 (y : Int) : Int := xor3 (turnV y 17) (turnV y 19) (y / 2 ^ 10)
def chV (e f g : Int) : Int := bits .xor .u32 (bits .and .u32 e f) (bits .and .u32 (bits .xor .u32 4294967295 e) g)
def majV (a b c : Int) : Int := xor3 (bits .and .u32 a b) (bits .and .u32 a c) (bits .and .u32 b c)

/-- The word of four bytes at place p. -/
def wordV (b : Nat → Int) (p : Nat) : Int := bits .or .u32 (bits .or .u32 (bits .or .u32 (b p * 2 ^ 24 % 4294967296) (b (p + 1) * 2 ^ 16 % 4294967296)) (b (p + 2) * 2 ^ 8 % 4294967296)) (b (p + 3))
theorem wordV_lo (b : Nat → Int) (p : Nat) : 0 ≤ wordV b p := bits_u32_lo _ _ _
theorem wordV_hi (b : Nat → Int) (p : Nat) : wordV b p < 4294967296 := bits_u32_hi _ _ _

/-- The schedule's word t of a block. -/
def schV (b : Nat → Int) (t : Nat) : Int :=
  if h : t < 16 then wordV b (4 * t) else (small1 (schV b (t - 2)) + schV b (t - 7) + small0 (schV b (t - 15)) + schV b (t - 16)) % 4294967296
termination_by t
decreasing_by all_goals omega

theorem schV_low (b : Nat → Int) {t : Nat} (h : t < 16) : schV b t = wordV b (4 * t) := by
  rw [schV, dif_pos h]
theorem schV_high (b : Nat → Int) {t : Nat} (h : 16 ≤ t) : schV b t = (small1 (schV b (t - 2)) + schV b (t - 7) + small0 (schV b (t - 15)) + schV b (t - 16)) % 4294967296 := by
  rw [schV, dif_neg (by omega)]
theorem schV_lo (b : Nat → Int) (t : Nat) : 0 ≤ schV b t := by
  by_cases h : t < 16
  · rw [schV_low b h]; exact wordV_lo _ _
  · rw [schV_high b (by omega)]; omega
theorem schV_hi (b : Nat → Int) (t : Nat) : schV b t < 4294967296 := by
  by_cases h : t < 16
  · rw [schV_low b h]; exact wordV_hi _ _
  · rw [schV_high b (by omega)]; omega
theorem schV_congr {b c : Nat → Int} (h : ∀ i, i < 64 → b i = c i) : ∀ t, schV b t = schV c t := by
  intro t
  induction t using Nat.strongRecOn with
  | ind t ih =>
    by_cases q : t < 16
    · rw [schV_low b q, schV_low c q]
      unfold wordV
      rw [h _ (by omega), h _ (by omega), h _ (by omega), h _ (by omega)]
    · rw [schV_high b (by omega), schV_high c (by omega), ih _ (by omega), ih _ (by omega), ih _ (by omega), ih _ (by omega)]

/-- The 64 words that the rounds add. -/
def keyL : List Int := [1116352408, 1899447441, 3049323471, 3921009573, 961987163, 1508970993, 2453635748, 2870763221, 3624381080, 310598401, 607225278, 1426881987, 1925078388, 2162078206, 2614888103, 3248222580, 3835390401, 4022224774, 264347078, 604807628, 770255983, 1249150122, 1555081692, 1996064986, 2554220882, 2821834349, 2952996808, 3210313671, 3336571891, 3584528711, 113926993, 338241895, 666307205, 773529912, 1294757372, 1396182291, 1695183700, 1986661051, 2177026350, 2456956037, 2730485921, 2820302411, 3259730800, 3345764771, 3516065817, 3600352804, 4094571909, 275423344, 430227734, 506948616, 659060556, 883997877, 958139571, 1322822218, 1537002063, 1747873779, 1955562222, 2024104815, 2227730452, 2361852424, 2428436474, 2756734187, 3204031479, 3329325298]
def keyV (t : Nat) : Int := keyL.getD t 0
/-- The state at first. -/
def firstL : List Int := [1779033703, 3144134277, 1013904242, 2773480762, 1359893119, 2600822924, 528734635, 1541459225]
def firstV (i : Nat) : Int := firstL.getD i 0
theorem keyV_bound : ∀ t, t < 64 → 0 ≤ keyV t ∧ keyV t < 4294967296 := by decide +kernel
theorem firstV_bound : ∀ i, i < 8 → 0 ≤ firstV i ∧ firstV i < 4294967296 := by decide +kernel

def t1V (v : Nat → Int) (m : Int) : Int := (v 7 + big1 (v 4) + chV (v 4) (v 5) (v 6) + m) % 4294967296
def t2V (v : Nat → Int) : Int := (big0 (v 0) + majV (v 0) (v 1) (v 2)) % 4294967296
/-- A round: m is the round's key and the schedule's word. -/
def roundV (v : Nat → Int) (m : Int) (i : Nat) : Int :=
  match i with
  | 0 => (t1V v m + t2V v) % 4294967296
  | 4 => (v 3 + t1V v m) % 4294967296
  | i + 1 => v i
theorem roundV_mod (v : Nat → Int) (m : Int) : roundV v (m % 4294967296) = roundV v m := by
  have : t1V v (m % 4294967296) = t1V v m := by unfold t1V; omega
  funext i
  unfold roundV
  rw [this]

def roundsV (v : Nat → Int) (b : Nat → Int) : Nat → Nat → Int
  | 0 => v
  | t + 1 => roundV (roundsV v b t) (keyV t + schV b t)
theorem roundsV_congr (v : Nat → Int) {b c : Nat → Int} (h : ∀ i, i < 64 → b i = c i) : ∀ t, roundsV v b t = roundsV v c t
  | 0 => rfl
  | t + 1 => by rw [roundsV, roundsV, roundsV_congr v h t, schV_congr h]

/-- What a state is behind a block. -/
def blockV (h b : Nat → Int) (i : Nat) : Int := (h i % 4294967296 + roundsV (fun i => h i % 4294967296) b 64 i) % 4294967296
theorem blockV_lo (h b : Nat → Int) (i : Nat) : 0 ≤ blockV h b i := by unfold blockV; omega
theorem blockV_hi (h b : Nat → Int) (i : Nat) : blockV h b i < 4294967296 := by unfold blockV; omega
theorem blockV_congr (h : Nat → Int) {b c : Nat → Int} (e : ∀ i, i < 64 → b i = c i) : blockV h b = blockV h c := by
  funext i
  unfold blockV
  rw [roundsV_congr _ e]

/-- What a state is behind q blocks. -/
def blocksV (h b : Nat → Int) : Nat → Nat → Int
  | 0 => h
  | q + 1 => blockV (blocksV h b q) (fun i => b (64 * q + i))
theorem blocksV_congr (h : Nat → Int) {b c : Nat → Int} : ∀ q, (∀ i, i < 64 * q → b i = c i) → blocksV h b q = blocksV h c q
  | 0, _ => rfl
  | q + 1, e => by
    rw [blocksV, blocksV, blocksV_congr h q (fun i hi => e i (by omega))]
    exact blockV_congr _ (fun i hi => e _ (by omega))
/-- First q blocks, then r more. -/
theorem blocksV_add (h b : Nat → Int) (q : Nat) : ∀ r, blocksV h b (q + r) = blocksV (blocksV h b q) (fun i => b (64 * q + i)) r
  | 0 => rfl
  | r + 1 => by
    rw [← Nat.add_assoc, blocksV, blocksV, blocksV_add h b q r]
    refine blockV_congr _ (fun i hi => ?_)
    show b _ = b _
    congr 1
    omega
theorem blocksV_bound (h b : Nat → Int) (e : ∀ i, i < 8 → 0 ≤ h i ∧ h i < 4294967296) : ∀ q i, i < 8 → 0 ≤ blocksV h b q i ∧ blocksV h b q i < 4294967296
  | 0, i, hi => e i hi
  | q + 1, i, hi => ⟨blockV_lo _ _ _, blockV_hi _ _ _⟩

end Go.Proofs.Ytjkojofpkeglpab
