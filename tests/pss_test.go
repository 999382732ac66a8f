package tests

import (
	"bytes"
	"fmt"
	"math"
	"slices"
	"testing"

	"loop.example/g00148/impl"
)

// plainPss looks whether em is just what is masked of h and the salt that is found in it.
func plainPss(em []byte, bits int, h []byte) bool {
	if !within(bits, 127, 511) || len(em) != sizeOf(bits) || len(h) != 8 {
		return false
	}
	end := len(em) - 9
	salt := slices.Clone(em[end-4 : end])
	for i, b := range plainMask(em[end:end+8], end)[end-4:] {
		salt[i] ^= b
	}
	return bytes.Equal(em, maskedText(bits, h, salt))
}

func saysPss(t *testing.T, what string, em []byte, bits int, h []byte, want bool) {
	t.Helper()
	if got := impl.PssOk(em, bits, h); got != want {
		t.Errorf("%s: PssOk(%x, %d, %x): %v", what, em, bits, h, got)
	}
}

func pssBits() []int {
	return []int{127, 128, 129, 130, 131, 132, 133, 134, 135, 136, 137, 191, 192, 193, 383, 384, 385, 503, 504, 505, 506, 507, 508, 509, 510, 511}
}

func TestMaskedSaysItsDigest(t *testing.T) {
	s := turn(121)
	for bits := 127; bits <= 511; bits++ {
		for range 3 {
			h, salt := s.someBytes(8), s.someBytes(4)
			saysPss(t, "masked", maskedText(bits, h, salt), bits, h, true)
		}
	}
	for _, h := range [][]byte{make([]byte, 8), bytes.Repeat([]byte{255}, 8)} {
		for _, salt := range [][]byte{make([]byte, 4), bytes.Repeat([]byte{255}, 4), {0, 0, 0, 1}, {1, 0, 0, 0}} {
			for _, bits := range pssBits() {
				saysPss(t, "masked", maskedText(bits, h, salt), bits, h, true)
			}
		}
	}
}

// The text was reckoned by another program.
func TestMaskedByHand(t *testing.T) {
	h, salt := []byte("8 bytes."), []byte("salt")
	em := fromHex(t, "6045262accf299bb61ec0799e9e7df82eb9b615321d14ebc")
	saysPss(t, "by hand", em, 191, h, true)
	sameHex(t, "the test's own", maskedText(191, h, salt), em)
}

func TestMaskedSaysNoOtherDigest(t *testing.T) {
	s := turn(122)
	for _, bits := range pssBits() {
		h := s.someBytes(8)
		em := maskedText(bits, h, s.someBytes(4))
		for i := range 64 {
			other := slices.Clone(h)
			other[i/8] ^= 1 << (i % 8)
			saysPss(t, "another digest", em, bits, other, false)
		}
		saysPss(t, "another digest", em, bits, s.someBytes(8), false)
		saysPss(t, "another digest", em, bits, make([]byte, 8), false)
	}
}

func TestMaskedWithEachBitTurned(t *testing.T) {
	s := turn(123)
	for _, bits := range pssBits() {
		h := s.someBytes(8)
		em := maskedText(bits, h, s.someBytes(4))
		for i := range 8 * len(em) {
			em[i/8] ^= 128 >> (i % 8)
			saysPss(t, fmt.Sprintf("bit %d turned", i), em, bits, h, false)
			em[i/8] ^= 128 >> (i % 8)
		}
	}
}

// Each of the bits that must be 0, alone and with all others that must be.
func TestMaskedBitsThatMustBe0(t *testing.T) {
	s := turn(124)
	for bits := 127; bits <= 511; bits++ {
		h := s.someBytes(8)
		em := maskedText(bits, h, s.someBytes(4))
		free := 8*len(em) - bits
		for set := 1; set < 1<<free; set++ {
			first := em[0]
			em[0] |= byte(set << (8 - free))
			saysPss(t, fmt.Sprintf("%d set of %d bits", set, free), em, bits, h, false)
			em[0] = first
		}
		saysPss(t, "none set", em, bits, h, true)
	}
}

func TestMaskedLastByte(t *testing.T) {
	h := []byte("87654321")
	for _, bits := range []int{127, 128, 511} {
		em := maskedText(bits, h, []byte("salt"))
		for last := range 256 {
			em[len(em)-1] = byte(last)
			saysPss(t, fmt.Sprintf("last byte %d", last), em, bits, h, last == 188)
		}
	}
}

// otherPlain is masked for a plain text that has b at a place ahead of the salt.
func otherPlain(bits int, h []byte, at int, b byte) []byte {
	salt := []byte("SALT")
	plain := make([]byte, sizeOf(bits)-9)
	copy(plain[len(plain)-4:], salt)
	plain[len(plain)-5] = 1
	plain[at] = b
	return maskedWith(bits, plain, shortOf(make([]byte, 8), h, salt))
}

func TestMaskedAheadOfTheSalt(t *testing.T) {
	h := []byte("12345678")
	for _, bits := range pssBits() {
		mark := sizeOf(bits) - 14
		for at := range mark {
			for _, b := range []byte{1, 2, 4, 8, 16, 32, 64, 128, 255} {
				// Bits that are masked out of the first byte say nothing.
				lost := at == 0 && int(b)>>(8-(8*sizeOf(bits)-bits))<<(8-(8*sizeOf(bits)-bits)) == int(b)
				saysPss(t, fmt.Sprintf("%d at %d", b, at), otherPlain(bits, h, at, b), bits, h, lost)
			}
		}
		for b := range 256 {
			saysPss(t, fmt.Sprintf("%d for 1", b), otherPlain(bits, h, mark, byte(b)), bits, h, b == 1)
		}
	}
}

func TestMaskedForTheBitsBeside(t *testing.T) {
	s := turn(125)
	for bits := 120; bits <= 520; bits++ {
		for more := -9; more <= 9; more++ {
			h := s.someBytes(8)
			em := maskedText(bits, h, s.someBytes(4))
			saysPss(t, fmt.Sprintf("masked for %d bits", bits), em, bits+more, h, plainPss(em, bits+more, h))
		}
	}
}

func TestPssOkLimits(t *testing.T) {
	s := turn(126)
	for _, bits := range []int{112, 119, 120, 121, 125, 126, 512, 513, 519, 520, 521, 1024} {
		h := s.someBytes(8)
		saysPss(t, "outside", maskedText(bits, h, s.someBytes(4)), bits, h, false)
	}
	for _, bits := range slices.Concat(farOff(), []int{-511, -127, -8, -7, 0, 1, 7, 8, 9, 64, 72, 103, 104, 105}) {
		for _, size := range []int{0, 1, 8, 9, 10, 13, 14, 16, 64} {
			saysPss(t, "far outside", make([]byte, size), bits, make([]byte, 8), false)
		}
	}
	for _, bits := range []int{math.MaxInt - 7, math.MaxInt - 6, math.MinInt + 7} {
		saysPss(t, "far outside", nil, bits, make([]byte, 8), false)
	}
}

func TestPssOkSizes(t *testing.T) {
	s := turn(127)
	for _, bits := range pssBits() {
		h := s.someBytes(8)
		em := maskedText(bits, h, s.someBytes(4))
		for n := range len(em) {
			saysPss(t, "cut behind", em[:n], bits, h, false)
			saysPss(t, "cut ahead", em[n+1:], bits, h, false)
		}
		for _, more := range [][]byte{{0}, {188}, {0, 0}, make([]byte, 8), em} {
			saysPss(t, "longer behind", slices.Concat(em, more), bits, h, false)
			saysPss(t, "longer ahead", slices.Concat(more, em), bits, h, false)
		}
		for _, n := range []int{0, 1, 7, 9, 16, 32} {
			wrong := s.someBytes(n)
			saysPss(t, "digest of another size", maskedText(bits, wrong, s.someBytes(4)), bits, wrong, false)
		}
		saysPss(t, "no digest", em, bits, nil, false)
		saysPss(t, "nothing", nil, bits, h, false)
	}
}

// What is found in any bytes is what the tests find in them.
func TestPssOkOfAnyBytes(t *testing.T) {
	s := turn(128)
	for range 3000 {
		bits := 127 + s.below(385)
		em := s.someBytes(sizeOf(bits))
		em[len(em)-1] = 188
		em[0] >>= 8*len(em) - bits
		saysPss(t, "by chance", em, bits, s.someBytes(8), false)
	}
}
