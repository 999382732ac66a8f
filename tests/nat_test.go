package tests

import (
	"bytes"
	"math"
	"math/big"
	"slices"
	"strconv"
	"testing"

	"loop.example/g00148/impl"
)

func TestNatOk(t *testing.T) {
	for _, a := range naturals() {
		if !impl.NatOk(a) {
			t.Errorf("NatOk(%v) is false", a)
		}
	}
	for _, a := range wrongNaturals() {
		if impl.NatOk(a) {
			t.Errorf("NatOk(%v) is true", a)
		}
	}
	for _, a := range [][]int{nil, {}, {65535}, {0, 1}, many(1, 64), power(1, 63)} {
		if !impl.NatOk(a) {
			t.Errorf("NatOk(%v) is false", a)
		}
	}
}

func TestSumLessOneIsTheOther(t *testing.T) {
	for _, a := range naturals() {
		for _, b := range naturals() {
			sum, ok := impl.NatAdd(a, b)
			told(t, "NatAdd", sum, ok, new(big.Int).Add(bigOf(a), bigOf(b)))
			if !ok {
				continue
			}
			rest, ok := impl.NatSub(sum, a)
			told(t, "sum less the first", rest, ok, bigOf(b))
			rest, ok = impl.NatSub(sum, b)
			told(t, "sum less the second", rest, ok, bigOf(a))
		}
	}
}

func TestNatSubIsTheDifference(t *testing.T) {
	for _, a := range naturals() {
		for _, b := range naturals() {
			rest, ok := impl.NatSub(a, b)
			if bigOf(a).Cmp(bigOf(b)) < 0 {
				refused(t, "NatSub below 0", rest, ok)
				continue
			}
			told(t, "NatSub", rest, ok, new(big.Int).Sub(bigOf(a), bigOf(b)))
		}
	}
}

func TestNatMulIsTheProduct(t *testing.T) {
	for _, a := range naturals() {
		for _, b := range naturals() {
			product, ok := impl.NatMul(a, b)
			told(t, "NatMul", product, ok, new(big.Int).Mul(bigOf(a), bigOf(b)))
		}
	}
}

// divides checks the answer of NatDiv for an a that is NatOk and a b that is NatOk and not 0.
func divides(t *testing.T, a []int, b []int) {
	t.Helper()
	often, rest, ok := impl.NatDiv(a, b)
	if !ok || impl.NatCompare(rest, b) != -1 {
		t.Fatalf("NatDiv(%v, %v): %v %v %v: what is left is not less than the divisor", a, b, often, rest, ok)
	}
	part, ok := impl.NatMul(often, b)
	if !ok {
		t.Fatalf("NatDiv(%v, %v): %v times the divisor is too long", a, b, often)
	}
	whole, ok := impl.NatAdd(part, rest)
	if !ok || !slices.Equal(whole, a) {
		t.Fatalf("NatDiv(%v, %v): %v and %v do not make the first again", a, b, often, rest)
	}
	q, r := new(big.Int).QuoRem(bigOf(a), bigOf(b), new(big.Int))
	told(t, "NatDiv's first", often, true, q)
	told(t, "NatDiv's second", rest, true, r)
}

func TestQuotientDivisorAndRestMakeTheWhole(t *testing.T) {
	for _, a := range naturals() {
		for _, b := range naturals() {
			if len(b) > 0 {
				divides(t, a, b)
			}
		}
	}
}

func TestNatDivByChance(t *testing.T) {
	s := turn(2)
	for range 30000 {
		a := s.natural(s.below(12))
		b := s.natural(1 + s.below(6))
		// A highest digit that is small, or the greatest, makes guesses of a digit go wrong most.
		switch s.below(4) {
		case 0:
			b[len(b)-1] = 1
		case 1:
			b[len(b)-1] = 32768
		case 2:
			b[len(b)-1] = 65535
		}
		divides(t, a, b)
	}
}

func TestNatDivEdges(t *testing.T) {
	cases := []struct{ a, b, often, rest []int }{
		{nil, []int{1}, nil, nil},
		{[]int{}, []int{5, 6}, nil, nil},
		{[]int{5}, []int{1}, []int{5}, nil},
		{[]int{5}, []int{5}, []int{1}, nil},
		{[]int{5}, []int{6}, nil, []int{5}},
		{[]int{5}, []int{0, 1}, nil, []int{5}},
		{[]int{65535, 3}, []int{0, 4}, nil, []int{65535, 3}},
		{[]int{1, 2, 3}, []int{1, 2, 3}, []int{1}, nil},
		{[]int{0, 2, 3}, []int{1, 2, 3}, nil, []int{0, 2, 3}},
		{[]int{5, 1}, []int{7}, []int{9363}, nil},
		{[]int{0, 1}, []int{65535}, []int{1}, []int{1}},
		{many(65535, 64), many(65535, 64), []int{1}, nil},
		{many(65535, 64), []int{1}, many(65535, 64), nil},
		{many(65535, 63), many(65535, 64), nil, many(65535, 63)},
		{many(65535, 64), power(1, 63), []int{65535}, many(65535, 63)},
		{many(65535, 64), power(1, 1), many(65535, 63), []int{65535}},
		{power(1, 63), []int{1, 1}, slices.Repeat([]int{0, 65535}, 31), []int{0, 1}},
		// Digits that long division guesses too high from the highest ones alone.
		{[]int{0, 0xfffe, 0x8000}, []int{0xffff, 0x8000}, []int{0xffff}, []int{0xffff, 0x7fff}},
		{[]int{3, 0, 0x8000}, []int{1, 0, 0x2000}, []int{3}, []int{0, 0, 0x2000}},
		{[]int{0, 0, 0x8000, 0x7fff}, []int{1, 0, 0x8000}, []int{0xfffe}, []int{2, 0xffff, 0x7fff}},
		{[]int{0, 0xfffe, 0, 0x8000}, []int{0xffff, 0, 0x8000}, []int{0xffff}, []int{0xffff, 0xffff, 0x7fff}},
		{[]int{0, 0, 1, 1}, []int{1, 1, 1}, []int{0xffff}, []int{1, 0, 1}},
		{[]int{0xffff, 0xfffe, 0, 1}, []int{0xffff, 0, 1}, []int{0xffff}, []int{0xfffe, 0, 1}},
		{[]int{0, 0, 0, 0xffff}, []int{0, 0xffff}, []int{0, 0, 1}, nil},
	}
	for _, c := range cases {
		often, rest, ok := impl.NatDiv(c.a, c.b)
		if !ok || !slices.Equal(often, c.often) || !slices.Equal(rest, c.rest) {
			t.Errorf("NatDiv(%v, %v): got %v %v %v, want %v %v", c.a, c.b, often, rest, ok, c.often, c.rest)
		}
	}
	for _, zero := range [][]int{nil, {}} {
		for _, a := range naturals() {
			often, rest, ok := impl.NatDiv(a, zero)
			refused(t, "NatDiv by 0", often, ok)
			refused(t, "NatDiv by 0", rest, ok)
		}
	}
}

func TestNatOf(t *testing.T) {
	cases := []struct {
		n    int
		want []int
	}{
		{0, nil}, {1, []int{1}}, {65535, []int{65535}}, {65536, []int{0, 1}},
		{1<<32 - 1, []int{65535, 65535}}, {1 << 32, []int{0, 0, 1}},
		{1 << 48, []int{0, 0, 0, 1}}, {1 << 62, []int{0, 0, 0, 16384}},
		{math.MaxInt, []int{65535, 65535, 65535, 32767}},
	}
	for _, c := range cases {
		a, ok := impl.NatOf(c.n)
		if !ok || !slices.Equal(a, c.want) || !impl.NatOk(a) {
			t.Errorf("NatOf(%d): got %v %v, want %v", c.n, a, ok, c.want)
		}
	}
	for _, n := range []int{-1, -2, -65536, math.MinInt} {
		a, ok := impl.NatOf(n)
		refused(t, "NatOf("+strconv.Itoa(n)+")", a, ok)
	}
}

func TestNatInt(t *testing.T) {
	for _, n := range []int{0, 1, 65535, 65536, 1<<32 - 1, 1 << 32, 1<<48 + 5, 1 << 61, 1<<62 - 65536, 1<<62 - 1} {
		a, _ := impl.NatOf(n)
		if got, ok := impl.NatInt(a); !ok || got != n {
			t.Errorf("NatInt of %d: got %d %v", n, got, ok)
		}
	}
	refusedToo := [][]int{{0, 0, 0, 16384}, {1, 0, 0, 16384}, {65535, 65535, 65535, 32767}, {0, 0, 0, 65535}, {0, 0, 0, 0, 1}, many(65535, 64)}
	for _, a := range append(refusedToo, wrongNaturals()...) {
		if got, ok := impl.NatInt(a); ok || got != 0 {
			t.Errorf("NatInt(%v): got %d %v, want 0 false", a, got, ok)
		}
	}
	if got, ok := impl.NatInt(nil); !ok || got != 0 {
		t.Errorf("NatInt(nil): got %d %v", got, ok)
	}
}

func TestNatCompare(t *testing.T) {
	for _, a := range naturals() {
		for _, b := range naturals() {
			if got, want := impl.NatCompare(a, b), bigOf(a).Cmp(bigOf(b)); got != want {
				t.Errorf("NatCompare(%v, %v): got %d, want %d", a, b, got, want)
			}
		}
	}
	if impl.NatCompare(nil, []int{}) != 0 {
		t.Error("nil and the empty list are not the same")
	}
}

func TestNatBits(t *testing.T) {
	for _, a := range naturals() {
		if got, want := impl.NatBits(a), bigOf(a).BitLen(); got != want {
			t.Errorf("NatBits(%v): got %d, want %d", a, got, want)
		}
	}
	for places := range impl.MaxDigits {
		for bit := range 16 {
			if got, want := impl.NatBits(power(1<<bit, places)), 16*places+bit+1; got != want {
				t.Errorf("NatBits: got %d, want %d", got, want)
			}
		}
	}
}

func TestNatAddMeetsMaxDigits(t *testing.T) {
	full := many(65535, 64)
	for _, zero := range [][]int{nil, {}} {
		sum, ok := impl.NatAdd(full, zero)
		told(t, "the greatest and 0", sum, ok, bigOf(full))
		sum, ok = impl.NatAdd(zero, full)
		told(t, "0 and the greatest", sum, ok, bigOf(full))
	}
	for _, pair := range [][2][]int{{full, {1}}, {{1}, full}, {full, full}, {power(32768, 63), power(32768, 63)}} {
		sum, ok := impl.NatAdd(pair[0], pair[1])
		refused(t, "a sum of 65 digits", sum, ok)
	}
	sum, ok := impl.NatAdd(append([]int{65534}, many(65535, 63)...), []int{1})
	told(t, "a sum of 64 digits", sum, ok, bigOf(full))
	sum, ok = impl.NatAdd(many(65535, 63), []int{1})
	sameList(t, "a carry into digit 64", sum, power(1, 63))
	if !ok {
		t.Error("a carry into digit 64 is refused")
	}
}

func TestNatMulMeetsMaxDigits(t *testing.T) {
	cases := []struct {
		a, b []int
		well bool
	}{
		{power(1, 32), power(1, 31), true},
		{power(1, 32), power(1, 32), false},
		{many(65535, 32), many(65535, 32), true},
		{many(65535, 32), many(65535, 33), false},
		{power(256, 32), power(255, 31), true},
		{power(256, 32), power(256, 31), false},
		{many(65535, 64), []int{1}, true},
		{many(65535, 64), []int{2}, false},
		{many(65535, 64), nil, true},
		{power(1, 63), []int{65535}, true},
		{power(1, 63), []int{0, 1}, false},
	}
	for _, c := range cases {
		for _, order := range [][2][]int{{c.a, c.b}, {c.b, c.a}} {
			product, ok := impl.NatMul(order[0], order[1])
			if ok != c.well {
				t.Errorf("NatMul(%v, %v): got %v, want %v", order[0], order[1], ok, c.well)
			}
			told(t, "NatMul", product, ok, new(big.Int).Mul(bigOf(c.a), bigOf(c.b)))
		}
	}
}

func TestNatBytesThereAndBack(t *testing.T) {
	for _, a := range naturals() {
		for size := -1; size <= 129; size++ {
			got, ok := impl.NatBytes(a, size)
			if size < 0 || size > 128 || bigOf(a).BitLen() > 8*size {
				refused(t, "NatBytes", got, ok)
				continue
			}
			if !ok || !bytes.Equal(got, bigOf(a).FillBytes(make([]byte, size))) {
				t.Errorf("NatBytes(%v, %d): got %v %v", a, size, got, ok)
			}
			back, ok := impl.NatRead(got)
			told(t, "NatRead of NatBytes", back, ok, bigOf(a))
		}
	}
}

func TestNatBytesEdges(t *testing.T) {
	cases := []struct {
		a    []int
		size int
		well bool
	}{
		{nil, 0, true}, {[]int{}, 0, true}, {nil, 128, true}, {nil, 129, false}, {nil, -1, false},
		{nil, math.MaxInt, false}, {nil, math.MinInt, false}, {[]int{1}, math.MaxInt, false},
		{[]int{1}, 0, false}, {[]int{1}, 1, true}, {[]int{255}, 1, true}, {[]int{256}, 1, false}, {[]int{256}, 2, true},
		{[]int{0, 255}, 3, true}, {[]int{0, 255}, 2, false}, {[]int{0, 256}, 3, false}, {[]int{0, 256}, 4, true},
		{many(65535, 64), 128, true}, {many(65535, 64), 127, false}, {many(65535, 64), 129, false},
		{append(many(65535, 63), 255), 127, true}, {append(many(65535, 63), 255), 126, false},
	}
	for _, c := range cases {
		got, ok := impl.NatBytes(c.a, c.size)
		if ok != c.well || ok && len(got) != c.size {
			t.Errorf("NatBytes(%v, %d): got %v %v, want %v", c.a, c.size, got, ok, c.well)
		}
		if !ok {
			refused(t, "NatBytes", got, ok)
		}
	}
}

func TestNatReadThereAndBack(t *testing.T) {
	s := turn(3)
	for size := 0; size <= 128; size++ {
		for _, noughts := range []int{0, 1, 2, size} {
			b := make([]byte, size)
			for i := range b {
				if i >= noughts {
					b[i] = byte(s.below(256))
				}
			}
			a, ok := impl.NatRead(b)
			told(t, "NatRead", a, ok, new(big.Int).SetBytes(b))
			back, ok := impl.NatBytes(a, size)
			if !ok || !bytes.Equal(back, b) {
				t.Errorf("NatBytes of NatRead(%v): got %v %v", b, back, ok)
			}
		}
	}
}

func TestNatReadEdges(t *testing.T) {
	cases := []struct {
		b    []byte
		want []int
	}{
		{nil, nil}, {[]byte{}, nil}, {[]byte{0}, nil}, {make([]byte, 128), nil},
		{[]byte{1}, []int{1}}, {[]byte{0, 1}, []int{1}}, {[]byte{1, 0}, []int{256}}, {[]byte{1, 0, 0}, []int{0, 1}},
		{[]byte{0, 0, 0, 0, 7}, []int{7}}, {[]byte{0, 1, 2, 3}, []int{515, 1}},
		{bytes.Repeat([]byte{255}, 128), many(65535, 64)},
		{append(make([]byte, 127), 9), []int{9}},
		{append([]byte{0}, bytes.Repeat([]byte{255}, 127)...), append(many(65535, 63), 255)},
	}
	for _, c := range cases {
		a, ok := impl.NatRead(c.b)
		if !ok || !slices.Equal(a, c.want) || !impl.NatOk(a) {
			t.Errorf("NatRead(%v): got %v %v, want %v", c.b, a, ok, c.want)
		}
	}
	for _, b := range [][]byte{make([]byte, 129), append(make([]byte, 128), 1), bytes.Repeat([]byte{1}, 129), make([]byte, 1000)} {
		a, ok := impl.NatRead(b)
		refused(t, "NatRead of too many bytes", a, ok)
	}
}

func TestWrongNaturalsAreRefused(t *testing.T) {
	for _, wrong := range wrongNaturals() {
		if got := impl.NatBits(wrong); got != -1 {
			t.Errorf("NatBits(%v): got %d, want -1", wrong, got)
		}
		for _, size := range []int{-1, 0, 1, 128, 129} {
			got, ok := impl.NatBytes(wrong, size)
			refused(t, "NatBytes of a wrong one", got, ok)
		}
		for _, other := range append(wrongNaturals(), nil, []int{1}, []int{5, 6}, many(65535, 64)) {
			refusesPair(t, wrong, other)
			refusesPair(t, other, wrong)
		}
	}
}

func refusesPair(t *testing.T, a []int, b []int) {
	t.Helper()
	if got := impl.NatCompare(a, b); got != -2 {
		t.Errorf("NatCompare(%v, %v): got %d, want -2", a, b, got)
	}
	got, ok := impl.NatAdd(a, b)
	refused(t, "NatAdd of a wrong one", got, ok)
	got, ok = impl.NatSub(a, b)
	refused(t, "NatSub of a wrong one", got, ok)
	got, ok = impl.NatMul(a, b)
	refused(t, "NatMul of a wrong one", got, ok)
	often, rest, ok := impl.NatDiv(a, b)
	refused(t, "NatDiv of a wrong one", often, ok)
	refused(t, "NatDiv of a wrong one", rest, ok)
}
