package tests

import (
	"bytes"
	"fmt"
	"math/big"
	"slices"
	"testing"

	"loop.example/g00148/impl"
)

// shortOf is reckoned apart from the program.
func shortOf(parts ...[]byte) []byte {
	return digestOf(slices.Concat(parts...))[:8]
}

func restOf(h []byte, n int) int {
	number := new(big.Int).SetBytes(h)
	return int(number.Mod(number, big.NewInt(int64(n))).Int64())
}

func sizeOf(bits int) int {
	size := bits / 8
	if bits%8 != 0 {
		size++
	}
	return size
}

// rsaSecret is an N of two prime numbers, with the power that undoes E.
type rsaSecret struct {
	n *big.Int
	d *big.Int
	e int
}

func (s *turn) primeOf(bits int) *big.Int {
	p := new(big.Int).SetBytes(s.someBytes(bits/8 + 1))
	p.Mod(p, new(big.Int).Lsh(big.NewInt(1), uint(bits)))
	p.SetBit(p, bits-1, 1)
	p.SetBit(p, 0, 1)
	for !p.ProbablyPrime(10) {
		p.Add(p, big.NewInt(2))
	}
	return p
}

func (s *turn) rsaOf(bits int, e int) rsaSecret {
	less := big.NewInt(-1)
	for {
		p, q := s.primeOf(bits/2), s.primeOf(bits-bits/2)
		n := new(big.Int).Mul(p, q)
		d := new(big.Int).ModInverse(big.NewInt(int64(e)), new(big.Int).Mul(p.Add(p, less), q.Add(q, less)))
		if d != nil && n.BitLen() == bits && p.Cmp(q) != 0 {
			return rsaSecret{n, d, e}
		}
	}
}

func (r rsaSecret) key() impl.Key {
	return impl.Key{Kind: impl.KeyRsa, N: digitsOf(r.n), E: r.e}
}

func (r rsaSecret) size() int {
	return sizeOf(r.n.BitLen())
}

// sealed is what to the power E is the number of the text, which is below N.
func (r rsaSecret) sealed(text []byte) []byte {
	m := new(big.Int).SetBytes(text)
	return m.Exp(m, r.d, r.n).FillBytes(make([]byte, r.size()))
}

func (r rsaSecret) signPadded(msg []byte) []byte {
	return r.sealed(paddedText(shortOf(msg), r.size()))
}

func (r rsaSecret) signMasked(msg []byte, salt []byte) []byte {
	return r.sealed(maskedText(r.n.BitLen()-1, shortOf(msg), salt))
}

// paddedText knows no limits but that all has room.
func paddedText(h []byte, k int) []byte {
	text := bytes.Repeat([]byte{255}, k)
	copy(text, []byte{0, 1})
	copy(text[k-12:], []byte{0, 77, 1, 8})
	copy(text[k-8:], h)
	return text
}

// maskedText knows no limits but that all has room.
func maskedText(bits int, h []byte, salt []byte) []byte {
	plain := make([]byte, sizeOf(bits)-9)
	plain[len(plain)-5] = 1
	copy(plain[len(plain)-4:], salt)
	return maskedWith(bits, plain, shortOf(make([]byte, 8), h, salt))
}

func maskedWith(bits int, plain []byte, w []byte) []byte {
	d := plainMask(w, len(plain))
	for i := range d {
		d[i] ^= plain[i]
	}
	for free := range 8*sizeOf(bits) - bits {
		d[0] &^= 128 >> free
	}
	return slices.Concat(d, w, []byte{188})
}

func highThree(n int) []byte {
	return []byte{byte(n >> 16), byte(n >> 8), byte(n)}
}

func lowThree(n int) []byte {
	return []byte{byte(n), byte(n >> 8), byte(n >> 16)}
}

// curveSecret has a Q that is secret times the base.
type curveSecret struct {
	curve  impl.Curve
	secret int
	q      impl.Point
}

func (s *turn) curveSecretOf(k impl.Curve) curveSecret {
	secret := 1 + s.below(k.N-1)
	return curveSecret{k, secret, planeFold(k, secret, impl.Point{X: k.GX, Y: k.GY})}
}

func (c curveSecret) key() impl.Key {
	return impl.Key{Kind: impl.KeyCurve, Curve: c.curve, Q: c.q}
}

// numbers are r and s of a message by a nonce; one of them may be 0, which is no signature.
func (c curveSecret) numbers(msg []byte, nonce int) (int, int) {
	k := c.curve
	r := planeFold(k, nonce, impl.Point{X: k.GX, Y: k.GY}).X % k.N
	s, _ := bigQuotient(restOf(shortOf(msg), k.N)+r*c.secret, nonce, k.N)
	return r, s
}

// sign goes through the nonces from one on; where there are few points, a message may have no signature.
func (c curveSecret) sign(msg []byte, nonce int) ([]byte, bool) {
	for i := range c.curve.N - 1 {
		if r, s := c.numbers(msg, 1+(nonce+i)%(c.curve.N-1)); r > 0 && s > 0 {
			return append(highThree(r), highThree(s)...), true
		}
	}
	return nil, false
}

// edSecret has an A that is secret times the base, and beside, which is a pair that 8 times is (0, 1).
type edSecret struct {
	ed     impl.Ed
	secret int
	a      impl.Pair
}

func (s *turn) edSecretOf(k impl.Ed, beside impl.Pair) edSecret {
	secret := s.below(k.L)
	g := edGroup(k)
	return edSecret{k, secret, g.plainSum(beside, g.plainFold(secret, g.base))}
}

func (e edSecret) key() impl.Key {
	return impl.Key{Kind: impl.KeyEd, Ed: e.ed, A: e.a}
}

// numberOf is what R and A and a message are multiplied by.
func (e edSecret) numberOf(r []byte, msg []byte) int {
	return restOf(shortOf(r, pairBytes(e.a.X, e.a.Y), msg), e.ed.L)
}

func (e edSecret) sign(msg []byte, nonce int, beside impl.Pair) []byte {
	g := edGroup(e.ed)
	pair := g.plainSum(beside, g.plainFold(nonce, g.base))
	r := pairBytes(pair.X, pair.Y)
	s := (nonce + e.numberOf(r, msg)*e.secret) % e.ed.L
	return append(r, lowThree(s)...)
}

// signer is a key whose secret is known, by an algorithm that goes with it.
type signer struct {
	name string
	key  impl.Key
	alg  int
	sign func(msg []byte) []byte
}

// rsaSizes are bits that leave each number by 8, the least and the most, and those about 22 and 23 bytes.
func rsaSizes() []int {
	return []int{128, 129, 130, 135, 136, 137, 175, 176, 177, 183, 184, 185, 192, 255, 256, 257, 320, 449, 500, 504, 505, 506, 511, 512}
}

func (s *turn) rsaSigners(bits int, e int) []signer {
	r := s.rsaOf(bits, e)
	name := fmt.Sprintf("N of %d bits, E %d", bits, e)
	salt := s.someBytes(4)
	list := []signer{{name, r.key(), impl.AlgPss, func(msg []byte) []byte { return r.signMasked(msg, salt) }}}
	if r.size() >= 23 {
		list = append(list, signer{name, r.key(), impl.AlgRsa, r.signPadded})
	}
	return list
}

// signers are some of each algorithm, of keys that are no small ones.
func signers() []signer {
	s := turn(91)
	list := []signer{}
	for i, bits := range rsaSizes() {
		e := []int{3, 5, 7, 17, 257, 65535, 65537}[i%7]
		list = append(list, s.rsaSigners(bits, e)...)
	}
	for _, k := range greatCurves() {
		c, nonce := s.curveSecretOf(k), s.below(k.N)
		list = append(list, signer{fmt.Sprintf("%+v", k), c.key(), impl.AlgCurve, func(msg []byte) []byte {
			sig, _ := c.sign(msg, nonce)
			return sig
		}})
	}
	for _, k := range greatEds()[:5] {
		e, nonce := s.edSecretOf(k, one), s.below(k.L)
		list = append(list, signer{fmt.Sprintf("%+v", k), e.key(), impl.AlgEd, func(msg []byte) []byte {
			return e.sign(msg, nonce, one)
		}})
	}
	return list
}

func verifies(t *testing.T, what string, key impl.Key, alg int, msg []byte, sig []byte, want bool) {
	t.Helper()
	if got := impl.Verify(key, alg, msg, sig); got != want {
		t.Errorf("%s: Verify of %d bytes by %d with %x: %v", what, len(msg), alg, sig, got)
	}
}

// someMessages have sizes at the edges of blocks and of MaxHash.
func (s *turn) someMessages() [][]byte {
	return [][]byte{nil, {}, []byte("a"), []byte("abc"), s.someBytes(55), s.someBytes(56), s.someBytes(64), s.someBytes(1000)}
}
