package tests

import (
	"fmt"
	"math/big"
	"testing"

	"loop.example/g00148/impl"
)

func TestRsaOfEachSize(t *testing.T) {
	s := turn(111)
	msg := []byte("each size")
	for bits := 128; bits <= 512; bits += 1 + s.below(4) {
		for _, by := range s.rsaSigners(bits, 65537) {
			verifies(t, by.name, by.key, by.alg, msg, by.sign(msg), true)
		}
	}
}

// The number of bits that must be 0 in what is masked is 8 times its bytes less bits: it goes from 0 to 7.
func TestRsaWithEachBitTurned(t *testing.T) {
	msg := []byte("each bit")
	for _, by := range signers() {
		if by.key.Kind != impl.KeyRsa {
			continue
		}
		sig := by.sign(msg)
		for i := range 8 * len(sig) {
			if i%7 != len(sig)%7 {
				continue
			}
			sig[i/8] ^= 1 << (i % 8)
			verifies(t, fmt.Sprintf("%s, bit %d", by.name, i), by.key, by.alg, msg, sig, false)
			sig[i/8] ^= 1 << (i % 8)
		}
		verifies(t, by.name, by.key, by.alg, msg, sig, true)
	}
}

// Another number that leaves the same by N is no signature.
func TestRsaSignatureAtAndAboveN(t *testing.T) {
	msg := []byte("above N")
	above := 0
	for _, by := range signers() {
		if by.key.Kind != impl.KeyRsa {
			continue
		}
		n, size := bigOf(by.key.N), impl.SigSize(by.key, by.alg)
		verifies(t, by.name+", N", by.key, by.alg, msg, n.FillBytes(make([]byte, size)), false)
		more := new(big.Int).SetBytes(by.sign(msg))
		for more.Add(more, n).BitLen() <= 8*size {
			above++
			verifies(t, by.name+", N more", by.key, by.alg, msg, more.FillBytes(make([]byte, size)), false)
		}
	}
	if above < 50 {
		t.Errorf("only %d numbers above N", above)
	}
}

func TestPaddedSignatureOfOtherTexts(t *testing.T) {
	s := turn(112)
	msg := []byte("other texts")
	for _, bits := range []int{177, 184, 185, 256, 505, 512} {
		r := s.rsaOf(bits, 17)
		text := paddedText(shortOf(msg), r.size())
		verifies(t, "as it is", r.key(), impl.AlgRsa, msg, r.sealed(text), true)
		for i := 1; i < len(text); i++ {
			for _, b := range []byte{0, 1, 128, 254, 255} {
				was := text[i]
				text[i] = b
				if b != was && new(big.Int).SetBytes(text).Cmp(r.n) < 0 {
					verifies(t, fmt.Sprintf("byte %d of %d is %d", i, len(text), b), r.key(), impl.AlgRsa, msg, r.sealed(text), false)
				}
				text[i] = was
			}
		}
	}
}

// Fewer bytes 255 would have room in fewer bytes than 23.
func TestPaddedSignatureOfAShortN(t *testing.T) {
	s := turn(113)
	msg := []byte("a short N")
	for bits := 128; bits <= 192; bits += 8 {
		for _, r := range []rsaSecret{s.rsaOf(bits, 3), s.rsaOf(bits-7+7*(128/bits), 3)} {
			verifies(t, fmt.Sprintf("k is %d", r.size()), r.key(), impl.AlgRsa, msg, r.signPadded(msg), r.size() >= 23)
		}
	}
}

// Where the bits of N less 1 need a byte fewer than N, a number may have a byte too many though the others are right.
func TestMaskedSignatureThatDoesNotFit(t *testing.T) {
	s := turn(114)
	msg := []byte("does not fit")
	for _, bits := range []int{129, 137, 185, 257, 449, 505} {
		r := s.rsaOf(bits, 5)
		tried := 0
		for range 200 {
			text := maskedText(bits-1, shortOf(msg), s.someBytes(4))
			if len(text) != r.size()-1 {
				t.Fatalf("%d bits: %d bytes", bits-1, len(text))
			}
			verifies(t, "as it is", r.key(), impl.AlgPss, msg, r.sealed(text), true)
			if more := append([]byte{1}, text...); new(big.Int).SetBytes(more).Cmp(r.n) < 0 {
				tried++
				verifies(t, "with a byte 1 ahead", r.key(), impl.AlgPss, msg, r.sealed(more), false)
			}
			if tried == 3 {
				break
			}
		}
		if tried == 0 {
			t.Errorf("%d bits: no number with a byte more is below N", bits)
		}
	}
}

// What is masked for other bits than those of N less 1 is no signature, even where it has room.
func TestMaskedSignatureForOtherBits(t *testing.T) {
	s := turn(115)
	msg := []byte("other bits")
	for _, bits := range []int{136, 140, 144, 300, 505, 511, 512} {
		r := s.rsaOf(bits, 65537)
		for other := bits - 20; other <= bits; other++ {
			if other < 127 {
				continue
			}
			text := maskedText(other, shortOf(msg), s.someBytes(4))
			if new(big.Int).SetBytes(text).Cmp(r.n) >= 0 {
				continue
			}
			padded := new(big.Int).SetBytes(text).FillBytes(make([]byte, r.size()))
			want := false
			if size := sizeOf(bits - 1); padded[0] == 0 || size == r.size() {
				want = plainPss(padded[r.size()-size:], bits-1, shortOf(msg))
			}
			verifies(t, fmt.Sprintf("masked for %d of %d bits", other, bits), r.key(), impl.AlgPss, msg, r.sealed(text), want)
		}
	}
}

func TestMaskedWithAnySalt(t *testing.T) {
	s := turn(116)
	r := s.rsaOf(200, 257)
	for _, msg := range s.someMessages() {
		for _, salt := range [][]byte{{0, 0, 0, 0}, {255, 255, 255, 255}, {1, 0, 0, 0}, {0, 0, 0, 1}, s.someBytes(4), s.someBytes(4)} {
			verifies(t, fmt.Sprint("salt ", salt), r.key(), impl.AlgPss, msg, r.signMasked(msg, salt), true)
		}
	}
}

// An N that is a prime number, and an E that divides, are keys as well: they can be asked.
func TestRsaKeysOfOtherNumbers(t *testing.T) {
	s := turn(117)
	msg := []byte("other numbers")
	for _, bits := range []int{177, 190, 384} {
		p := s.primeOf(bits)
		less := new(big.Int).Sub(p, big.NewInt(1))
		for _, e := range []int{3, 5, 7, 11, 13, 65537} {
			d := new(big.Int).ModInverse(big.NewInt(int64(e)), less)
			if d == nil {
				continue
			}
			r := rsaSecret{p, d, e}
			verifies(t, "N is a prime number", r.key(), impl.AlgRsa, msg, r.signPadded(msg), true)
			verifies(t, "N is a prime number", r.key(), impl.AlgPss, msg, r.signMasked(msg, []byte("salt")), true)
		}
	}
}
