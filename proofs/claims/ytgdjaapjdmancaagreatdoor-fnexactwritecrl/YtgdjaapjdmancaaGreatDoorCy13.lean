/- Walks: texts as names are compared, NameSame of both. Walks: parts of a text, labels, HostOk of both. Walks: PatternOk, HostMatch, Under of both. Walks: four numbers, InNet of both. -/
import Derived.Lib.Strings
import Derived.Test.YtgdjaapjdmancaaGreatDoorChecked
import Derived.Maps.AppendAt
import Derived.Laws.Rows
import Derived.Lib.QuietBelow
import Derived.Deep.DeepBigQuietO
import Derived.Lib.SmallJoins
import Derived.Handy
import Derived.Test.YtgdjaapjdmancaaGreatDoorCy01
import Derived.Test.YtgdjaapjdmancaaGreatDoorCy05
import Derived.Test.YtgdjaapjdmancaaGreatDoorCy08
import Derived.Test.YtgdjaapjdmancaaGreatDoorCy11
import Derived.Test.YtgdjaapjdmancaaGreatDoorCy12
import Derived.Lib.Bytealg
import Derived.OwnWalk
import Derived.WalkKit
import Derived.Deep.RegionWith
namespace Go.Proofs.YtgdjaapjdmancaaGreatDoor

section
set_option linter.unusedVariables false
set_option linter.unusedSimpArgs false

open Go.RowKit

theorem str_cells {w : World} {K cap i : Nat} {s : ByteArray} {x : Nat × Nat} (h : w.heap[K]? = some (.cells (bytesRow s cap) 5 x)) (hi : i < s.size) : w.cell? ⟨K, i, none⟩ = some (.int .u8 (bt s i)) := by
  simp only [World.cell?, h]
  have : (bytesRow s cap)[i]? = some (.int .u8 (bt s i)) := by
    unfold bytesRow
    rw [Array.getElem?_append_left (by simpa using hi)]
    rw [Array.getElem?_map, Array.getElem?_eq_getElem (by simpa using hi)]
    simp only [Option.map_some]
    rw [← bt_get s i hi]
    rfl
  simpa using this
end

section
set_option linter.unusedVariables false
set_option linter.unusedSimpArgs false

open Go.RowKit

/-- The parts of s between bytes m, from place k on, the part under way beginning at fr. -/
def partsFrom (s : ByteArray) (m : Nat) : Nat → Nat → Nat → List ByteArray
  | 0, k, fr => [s.extract fr s.size]
  | n + 1, k, fr => if bt s k = m then s.extract fr k :: partsFrom s m n (k + 1) (k + 1) else partsFrom s m n (k + 1) fr

def parts (s : ByteArray) (m : Nat) : List ByteArray := partsFrom s m s.size 0 0
end

section
set_option linter.unusedVariables false
set_option linter.unusedSimpArgs false

open Go.RowKit

/-- k is the place of the first dot, or the end. -/
structure IsDot (s : ByteArray) (k : Nat) : Prop where
  le : k ≤ s.size
  no : ∀ j, j < k → bt s j ≠ 46
  yes : k < s.size → bt s k = 46

theorem IsDot.unique {s : ByteArray} {k l : Nat} (h : IsDot s k) (g : IsDot s l) : k = l := by
  rcases Nat.lt_trichotomy k l with c | c | c
  · exact absurd (h.yes (by have := g.le; omega)) (g.no k c)
  · exact c
  · exact absurd (g.yes (by have := h.le; omega)) (h.no l c)

def dotFrom (s : ByteArray) : Nat → Nat → Nat
  | 0, k => k
  | n + 1, k => if bt s k = 46 then k else dotFrom s n (k + 1)

def dot (s : ByteArray) : Nat := dotFrom s s.size 0

/-- What strings.Cut(s, dot) tells behind the dot. -/
def behind (s : ByteArray) : ByteArray := if dot s < s.size then s.extract (dot s + 1) s.size else ⟨#[]⟩

def ahead (s : ByteArray) : ByteArray := if dot s < s.size then s.extract 0 (dot s) else s

/-- A star and a dot ahead. -/
def starE (s : ByteArray) : Bool := eqS (s.extract 0 2) ⟨#[42, 46]⟩

def starB (s : ByteArray) : Bool := decide (2 ≤ s.size) && starE s

def base (s : ByteArray) : ByteArray := if starB s then s.extract 2 s.size else s
end

section
set_option linter.unusedVariables false
set_option linter.unusedSimpArgs false

open Go.RowKit

/-- The number that an address is. -/
def whole (f : Nat → Int) : Int := f 0 * 16777216 + f 1 * 65536 + f 2 * 256 + f 3
end

end Go.Proofs.YtgdjaapjdmancaaGreatDoor
