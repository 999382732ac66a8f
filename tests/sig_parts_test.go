package tests

import (
	"bytes"
	"fmt"
	"math"
	"slices"
	"testing"

	"loop.example/g00148/impl"
)

func TestPadded(t *testing.T) {
	s := turn(161)
	for k := 23; k <= 64; k++ {
		for _, h := range [][]byte{make([]byte, 8), bytes.Repeat([]byte{255}, 8), s.someBytes(8), shortOf([]byte("abc"))} {
			got, ok := impl.Padded(h, k)
			saysBytes(t, fmt.Sprintf("Padded, k %d", k), got, ok, paddedText(h, k))
		}
	}
}

func TestPaddedByHand(t *testing.T) {
	h := []byte{1, 2, 3, 4, 5, 6, 7, 8}
	got, ok := impl.Padded(h, 23)
	saysBytes(t, "k 23", got, ok, fromHex(t, "0001ffffffffffffffffff004d01080102030405060708"))
	got, ok = impl.Padded(h, 24)
	saysBytes(t, "k 24", got, ok, fromHex(t, "0001ffffffffffffffffffff004d01080102030405060708"))
}

func TestPaddedRefuses(t *testing.T) {
	s := turn(162)
	sizes := slices.Concat(farOff(), []int{-64, -23, 0, 1, 8, 11, 12, 13, 14, 15, 21, 22, 23, 24, 63, 64, 65, 66, 128, 1 << 20, 256 + 23})
	for _, n := range []int{0, 1, 4, 7, 8, 9, 16, 32, 1000} {
		for _, k := range sizes {
			if n == 8 && within(k, 23, 64) {
				continue
			}
			got, ok := impl.Padded(s.someBytes(n), k)
			refused(t, fmt.Sprintf("Padded of %d bytes, k %d", n, k), got, ok)
		}
	}
	got, ok := impl.Padded(nil, 23)
	refused(t, "Padded of nil", got, ok)
}

func reduces(t *testing.T, h []byte, n int, want int) {
	t.Helper()
	if got := impl.Reduce(h, n); got != want {
		t.Errorf("Reduce(%x, %d): got %d, want %d", h, n, got, want)
	}
}

func TestReduce(t *testing.T) {
	s := turn(163)
	numbers := []int{2, 3, 4, 5, 7, 97, 100, 255, 256, 257, 65535, 65536, 65537, 1<<24 - 1, 1 << 24, 1<<31 - 2, 1<<31 - 1, 1 << 31}
	hashes := [][]byte{make([]byte, 8), bytes.Repeat([]byte{255}, 8), bytes.Repeat([]byte{128}, 8), {128, 0, 0, 0, 0, 0, 0, 0}, {127, 255, 255, 255, 255, 255, 255, 255}, {0, 0, 0, 0, 255, 255, 255, 255}, {0, 0, 0, 1, 0, 0, 0, 0}}
	for i := range 8 {
		hashes = append(hashes, make([]byte, 8), s.someBytes(8))
		hashes[len(hashes)-2][i] = 1
	}
	for range 200 {
		numbers = append(numbers, 2+s.below(1<<31-1))
	}
	for _, h := range hashes {
		for _, n := range numbers {
			reduces(t, h, n, restOf(h, n))
		}
	}
	reduces(t, []byte{0, 0, 0, 0, 0, 0, 1, 2}, 100, 58)
	reduces(t, bytes.Repeat([]byte{255}, 8), 1<<31, 1<<31-1)
	reduces(t, bytes.Repeat([]byte{255}, 8), 2, 1)
	reduces(t, bytes.Repeat([]byte{255}, 8), 65537, 0)
}

func TestReduceRefuses(t *testing.T) {
	s := turn(164)
	for _, size := range []int{0, 1, 4, 7, 8, 9, 16, 32} {
		for _, n := range slices.Concat(farOff(), []int{math.MinInt32, -2, 0, 1, 2, 3, 100, 1 << 31, 1<<31 + 1, 1 << 32, 1<<32 + 2}) {
			if size != 8 || !within(n, 2, 1<<31) {
				reduces(t, s.someBytes(size), n, -1)
				reduces(t, make([]byte, size), n, -1)
			}
		}
	}
	reduces(t, nil, 2, -1)
}
