package tests

import (
	"bytes"
	"fmt"
	"math"
	"math/big"
	"slices"
	"testing"

	"loop.example/g00148/impl"
)

// intText is reckoned apart from the program: the shortest bytes in whose range n lies.
func intText(n int) []byte {
	number := big.NewInt(int64(n))
	for size := uint(1); ; size++ {
		half := new(big.Int).Lsh(big.NewInt(1), 8*size-1)
		if number.Cmp(half) < 0 && number.Cmp(new(big.Int).Neg(half)) >= 0 {
			if n < 0 {
				number.Add(number, half.Lsh(half, 1))
			}
			return number.FillBytes(make([]byte, size))
		}
	}
}

// intEdges are where a number takes a byte more, and beside.
func intEdges() []int {
	list := []int{math.MinInt, math.MinInt + 1, math.MaxInt - 1, math.MaxInt}
	for n := -70000; n <= 70000; n++ {
		list = append(list, n)
	}
	for bit := 16; bit < 63; bit++ {
		for near := -2; near <= 2; near++ {
			list = append(list, 1<<bit+near, -1<<bit+near)
		}
	}
	s := turn(210)
	for range 2000 {
		list = append(list, s.below(1<<31)<<33>>s.below(64)^s.below(1<<31))
	}
	return list
}

func TestNumbersComeBack(t *testing.T) {
	for _, n := range intEdges() {
		b := impl.IntBytes(n)
		sameHex(t, fmt.Sprintf("IntBytes(%d)", n), b, intText(n))
		got, ok := impl.ReadIntBytes(b)
		saysInt(t, "ReadIntBytes", got, ok, n)
	}
}

func TestIntBytesByHand(t *testing.T) {
	cases := map[int][]byte{
		0: {0}, 1: {1}, -1: {255}, 127: {127}, 128: {0, 128}, -128: {128}, -129: {255, 127}, 255: {0, 255}, 256: {1, 0}, -256: {255, 0},
		32767: {127, 255}, 32768: {0, 128, 0}, -32768: {128, 0}, -32769: {255, 127, 255},
		math.MinInt: {128, 0, 0, 0, 0, 0, 0, 0}, math.MaxInt: {127, 255, 255, 255, 255, 255, 255, 255}, 1 << 55: {0, 128, 0, 0, 0, 0, 0, 0}, -1 << 55: {128, 0, 0, 0, 0, 0, 0},
	}
	for n, want := range cases {
		sameHex(t, fmt.Sprintf("IntBytes(%d)", n), impl.IntBytes(n), want)
		got, ok := impl.ReadIntBytes(want)
		saysInt(t, "ReadIntBytes", got, ok, n)
	}
}

// readsNumber wants bytes read where their first nine bits are not all alike.
func readsNumber(t *testing.T, b []byte) {
	t.Helper()
	got, ok := impl.ReadIntBytes(b)
	what := fmt.Sprintf("ReadIntBytes(%v)", b)
	needless := len(b) > 1 && (b[0] == 0 && b[1] < 128 || b[0] == 255 && b[1] >= 128)
	if len(b) == 0 || len(b) > 8 || needless {
		refusedInt(t, what, got, ok)
		return
	}
	number := new(big.Int).SetBytes(b)
	if b[0] >= 128 {
		number.Sub(number, new(big.Int).Lsh(big.NewInt(1), uint(8*len(b))))
	}
	saysInt(t, what, got, ok, int(number.Int64()))
	sameHex(t, "IntBytes of what is read", impl.IntBytes(got), b)
}

func TestReadIntBytes(t *testing.T) {
	check := func(text []byte) { readsNumber(t, text) }
	for size := range 3 {
		eachText(allBytes(), size, check)
	}
	edges := []byte{0, 1, 127, 128, 129, 254, 255}
	for size := 3; size <= 5; size++ {
		eachText(edges, size, check)
	}
	eachText([]byte{0, 127, 128, 255}, 7, check)
	eachText([]byte{0, 127, 128, 255}, 8, check)
	eachText([]byte{0, 128, 255}, 9, check)
	s := turn(211)
	for size := range 40 {
		for range 50 {
			check(s.someBytes(size))
		}
	}
}

func TestNeedlessBytesOfNumbers(t *testing.T) {
	for _, n := range []int{0, 1, 127, 128, 255, 256, 1 << 40, math.MaxInt, -1, -128, -129, -256, -1 << 40, math.MinInt} {
		sign := byte(0)
		if n < 0 {
			sign = 255
		}
		for more := 1; more < 12; more++ {
			b := slices.Concat(bytes.Repeat([]byte{sign}, more), intText(n))
			got, ok := impl.ReadIntBytes(b)
			refusedInt(t, fmt.Sprintf("ReadIntBytes(%v)", b), got, ok)
		}
	}
}
