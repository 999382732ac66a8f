package tests

import (
	"bytes"
	"fmt"
	"math"
	"math/big"
	"slices"
	"testing"

	"loop.example/g00148/impl"
)

const (
	oidSecond = 1000000
	oidMost   = 1000000000
)

// sevens are the bytes of one number, reckoned by its text of bits.
func sevens(n int) []byte {
	bits := fmt.Sprintf("%b", n)
	for len(bits)%7 != 0 {
		bits = "0" + bits
	}
	list := []byte{}
	for ; len(bits) > 0; bits = bits[7:] {
		number, _ := new(big.Int).SetString(bits[:7], 2)
		b := byte(number.Int64())
		if len(bits) > 7 {
			b += 128
		}
		list = append(list, b)
	}
	return list
}

func oidText(list []int) []byte {
	text := sevens(40*list[0] + list[1])
	for _, n := range list[2:] {
		text = append(text, sevens(n)...)
	}
	return text
}

// oids are the edges, and some of all lengths.
func oids() [][]int {
	list := [][]int{{1, 2, 840, 113549}, append([]int{2, oidSecond}, many(oidMost, 10)...), append([]int{0, 0}, many(0, 10)...)}
	for second := range 40 {
		list = append(list, []int{0, second}, []int{1, second}, []int{2, second}, []int{1, second, 5})
	}
	for _, second := range []int{40, 41, 47, 48, 79, 80, 119, 120, 127, 128, 16303, 16304, 16383, 16384, oidSecond - 1, oidSecond} {
		list = append(list, []int{2, second}, []int{2, second, 0})
	}
	for _, n := range []int{0, 1, 39, 40, 79, 80, 127, 128, 129, 255, 256, 16383, 16384, 16385, 1<<21 - 1, 1 << 21, 1<<28 - 1, 1 << 28, 1000080, 1000081, oidMost - 1, oidMost} {
		list = append(list, []int{0, 0, n}, []int{1, 39, n}, []int{2, 5, n, n}, []int{0, 1, 0, n, 0})
	}
	s := turn(220)
	for size := 2; size <= 12; size++ {
		for range 30 {
			oid := []int{2, s.below(oidSecond + 1)}
			for len(oid) < size {
				oid = append(oid, s.below(oidMost+1)>>s.below(31))
			}
			list = append(list, oid)
		}
	}
	return list
}

func readsOid(t *testing.T, b []byte, want []int) {
	t.Helper()
	got, ok := impl.ReadOid(b)
	sameList(t, fmt.Sprintf("ReadOid(%x)", b), got, want)
	if !ok {
		t.Errorf("ReadOid(%x): false", b)
	}
}

func refusesOid(t *testing.T, what string, b []byte) {
	t.Helper()
	got, ok := impl.ReadOid(b)
	refused(t, fmt.Sprintf("ReadOid of %s (%x)", what, b[:min(len(b), 70)]), got, ok)
}

func TestIdentifiersComeBack(t *testing.T) {
	for _, oid := range oids() {
		b, ok := impl.OidBytes(oid)
		saysBytes(t, fmt.Sprintf("OidBytes(%v)", oid), b, ok, oidText(oid))
		readsOid(t, b, oid)
	}
}

func TestOidBytesByHand(t *testing.T) {
	cases := []struct {
		oid  []int
		text []byte
	}{
		{[]int{0, 0}, []byte{0}}, {[]int{0, 39}, []byte{39}}, {[]int{1, 0}, []byte{40}}, {[]int{1, 39}, []byte{79}}, {[]int{2, 0}, []byte{80}}, {[]int{2, 40}, []byte{120}}, {[]int{2, 47}, []byte{127}}, {[]int{2, 48}, []byte{129, 0}},
		{[]int{2, oidSecond}, []byte{189, 133, 16}}, {[]int{0, 1, 127}, []byte{1, 127}}, {[]int{0, 1, 128}, []byte{1, 129, 0}}, {[]int{0, 1, 16384}, []byte{1, 129, 128, 0}}, {[]int{1, 2, oidMost}, []byte{42, 131, 220, 235, 148, 0}},
		{[]int{1, 2, 840, 113549}, []byte{42, 134, 72, 134, 247, 13}},
	}
	for _, c := range cases {
		b, ok := impl.OidBytes(c.oid)
		saysBytes(t, fmt.Sprintf("OidBytes(%v)", c.oid), b, ok, c.text)
		readsOid(t, c.text, c.oid)
	}
}

// wrongOids are lists that are no identifier, each for one reason.
func wrongOids() [][]int {
	list := [][]int{
		nil, {}, {0}, {1}, {2}, {3}, many(1, 13), many(0, 13), many(0, 100),
		{-1, 5}, {3, 5}, {3, 0}, {4, 5}, {math.MinInt, 5}, {math.MaxInt, 5}, {1 << 62, 0},
		{0, -1}, {1, -1}, {2, -1}, {0, 40}, {1, 40}, {0, 41}, {1, 80}, {0, oidSecond}, {1, oidSecond}, {2, oidSecond + 1}, {2, oidMost}, {2, math.MaxInt}, {2, math.MinInt}, {0, math.MaxInt},
	}
	for at := 2; at < 12; at++ {
		for _, n := range []int{-1, -128, oidMost + 1, 1 << 31, math.MaxInt, math.MinInt} {
			oid := many(5, 12)
			oid[0] = 1
			oid[at] = n
			list = append(list, oid, oid[:at+1])
		}
	}
	return list
}

func TestWrongOids(t *testing.T) {
	for _, oid := range wrongOids() {
		b, ok := impl.OidBytes(oid)
		refused(t, fmt.Sprintf("OidBytes(%v)", oid), b, ok)
	}
	for first := -2; first <= 4; first++ {
		for second := -2; second <= 100; second++ {
			b, ok := impl.OidBytes([]int{first, second})
			right := first >= 0 && first <= 2 && second >= 0 && (second < 40 || first == 2)
			if !right {
				refused(t, fmt.Sprintf("OidBytes(%d %d)", first, second), b, ok)
				continue
			}
			saysBytes(t, fmt.Sprintf("OidBytes(%d %d)", first, second), b, ok, oidText([]int{first, second}))
		}
	}
}

// numbersOf splits a text apart from the program; nothing where it is no identifier.
func numbersOf(text []byte) []int {
	list := []int{}
	for len(text) > 0 {
		size := 1 + slices.IndexFunc(text, func(b byte) bool { return b < 128 })
		if size == 0 || text[0] == 128 {
			return nil
		}
		n := new(big.Int)
		for _, b := range text[:size] {
			n.Add(n.Lsh(n, 7), big.NewInt(int64(b%128)))
		}
		text = text[size:]
		most := int64(oidMost)
		if len(list) == 0 {
			most = 80 + oidSecond
		}
		if n.Cmp(big.NewInt(most)) > 0 {
			return nil
		}
		if len(list) == 0 {
			first := min(int(n.Int64())/40, 2)
			list = append(list, first)
			n.Sub(n, big.NewInt(int64(40*first)))
		}
		list = append(list, int(n.Int64()))
	}
	if len(list) > 12 {
		return nil
	}
	return list
}

// readsOidAs holds the program against numbersOf, and what is read against what is written of it.
func readsOidAs(t *testing.T, text []byte) bool {
	t.Helper()
	want := numbersOf(text)
	if len(want) == 0 {
		refusesOid(t, "no identifier", text)
		return false
	}
	readsOid(t, text, want)
	b, ok := impl.OidBytes(want)
	saysBytes(t, "OidBytes of what is read", b, ok, text)
	return true
}

func TestReadEachShortOid(t *testing.T) {
	seen := tally{}
	check := func(text []byte) { seen.count(readsOidAs(t, text)) }
	for size := range 3 {
		eachText(allBytes(), size, check)
	}
	for size := 3; size <= 5; size++ {
		eachText([]byte{0, 1, 39, 79, 80, 127, 128, 129, 189, 255}, size, check)
	}
	eachText([]byte{0, 127, 128, 131, 255}, 7, check)
	for _, oid := range oids() {
		text := oidText(oid)
		for at := range text {
			for _, other := range otherTexts(text, at) {
				check(other)
			}
		}
	}
	seen.enough(t, 10000)
}

func TestReadOidEdges(t *testing.T) {
	refusesOid(t, "nothing", nil)
	refusesOid(t, "nothing", []byte{})
	for _, oid := range oids() {
		text := oidText(oid)
		refusesOid(t, "a needless byte ahead", append([]byte{128}, text...))
		refusesOid(t, "needless bytes ahead", append([]byte{128, 128, 128}, text...))
		open := slices.Clone(text)
		open[len(open)-1] |= 128
		refusesOid(t, "a last byte that says that more follows", open)
		refusesOid(t, "one more that has no end", append(slices.Clone(text), 129))
		refusesOid(t, "a needless byte ahead of one more", append(slices.Clone(text), 128, 1))
		refusesOid(t, "more than twelve", slices.Concat(text, make([]byte, 13-len(oid))))
		readsOid(t, slices.Concat(text, make([]byte, 12-len(oid))), append(slices.Clone(oid), make([]int, 12-len(oid))...))
	}
	for _, over := range []int{oidMost + 1, 1 << 30, 1<<31 - 1, 1 << 31, 1 << 35, 1 << 62, math.MaxInt} {
		refusesOid(t, "a number above its bound", append([]byte{42}, sevens(over)...))
		refusesOid(t, "a first number above its bound", sevens(over))
	}
	for _, over := range []int{oidSecond + 81, oidSecond + 120, oidMost} {
		refusesOid(t, "a second number above its bound", sevens(over))
	}
	for _, b := range []byte{128, 129, 255} {
		for size := 1; size < 300; size++ {
			long := append(bytes.Repeat([]byte{b}, size), 1)
			readsOidAs(t, long)
			readsOidAs(t, append([]byte{42}, long...))
		}
	}
}
