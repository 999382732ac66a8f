package tests

import (
	"fmt"
	"slices"
	"testing"

	"loop.example/g00148/impl"
)

func TestEdSignaturesOfGreatOnes(t *testing.T) {
	s := turn(141)
	for _, k := range greatEds() {
		for _, msg := range s.someMessages() {
			e := s.edSecretOf(k, one)
			for _, nonce := range []int{0, 1, k.L - 1, s.below(k.L)} {
				verifies(t, fmt.Sprintf("%+v, nonce %d", k, nonce), e.key(), impl.AlgEd, msg, e.sign(msg, nonce, one), true)
			}
		}
	}
}

// eightfold are the pairs of it that 8 times are (0, 1): of order 1, 2 and 4.
func eightfold(k impl.Ed) []impl.Pair {
	level := impl.Pair{X: twistRoot(k, 0)}
	return []impl.Pair{one, {Y: k.P - 1}, level, otherPair(k, level)}
}

// Taken 8-fold, R and A may each have such a pair beside.
func TestEdSignaturesWithPairsBeside(t *testing.T) {
	s := turn(142)
	for _, k := range append(smallEds(), greatEds()...) {
		for _, byA := range eightfold(k) {
			e := s.edSecretOf(k, byA)
			for _, byR := range eightfold(k) {
				msg := s.someBytes(9)
				verifies(t, fmt.Sprintf("%+v, %v and %v beside", k, byA, byR), e.key(), impl.AlgEd, msg, e.sign(msg, s.below(k.L), byR), true)
			}
		}
	}
}

// Another pair beside R is not taken away by taking all 8-fold.
func TestEdSignatureWithAnotherPairBeside(t *testing.T) {
	tried := 0
	for _, k := range smallEds() {
		g := edGroup(k)
		e := edSecret{k, 2, g.plainFold(2, g.base)}
		for _, beside := range pairsOf(k) {
			if g.plainFold(8, beside) != one {
				tried++
				verifies(t, fmt.Sprintf("%+v, %v beside", k, beside), e.key(), impl.AlgEd, nil, e.sign(nil, 3, beside), false)
			}
		}
	}
	if tried < 20 {
		t.Errorf("only %d other pairs", tried)
	}
}

// lefts are 8 s times the base, for each s below L.
func (e edSecret) lefts() []impl.Pair {
	g := edGroup(e.ed)
	list := []impl.Pair{}
	eight, sum := g.plainFold(8, g.base), one
	for range e.ed.L {
		list = append(list, sum)
		sum = g.plainSum(sum, eight)
	}
	return list
}

// Every pair as R with every s up to a few above L; A is any pair.
func TestEdSignaturesOfAllSmallOnes(t *testing.T) {
	s := turn(143)
	well := 0
	for _, k := range smallEds() {
		g := edGroup(k)
		e := edSecret{ed: k, a: s.anyPair(k)}
		lefts := e.lefts()
		for _, pair := range pairsOf(k) {
			r := pairBytes(pair.X, pair.Y)
			msg := s.someBytes(3)
			right := g.plainFold(8, g.plainSum(pair, g.plainFold(e.numberOf(r, msg), e.a)))
			for s := range k.L + 3 {
				want := s < k.L && lefts[s] == right
				verifies(t, fmt.Sprintf("%+v, A %v, R %v, s %d", k, e.a, pair, s), e.key(), impl.AlgEd, msg, append(slices.Clone(r), lowThree(s)...), want)
				if want {
					well++
				}
			}
		}
	}
	if well < 100 {
		t.Errorf("only %d signatures of small ones", well)
	}
}

func TestEdSignatureWithAnRThatIsNoPair(t *testing.T) {
	for _, k := range smallEds() {
		e := edSecret{k, 0, one}
		readers := pairReaders(k)
		for y := range 130 {
			for _, top := range []byte{0, 1, 127, 128, 129, 255} {
				r := []byte{byte(y), 0, top}
				if _, is := readers[string(r)]; is {
					continue
				}
				for s := range k.L {
					verifies(t, fmt.Sprintf("%+v, R %v", k, r), e.key(), impl.AlgEd, nil, append(slices.Clone(r), lowThree(s)...), false)
				}
			}
		}
	}
}

// (0, 1) has an even X alone; with the bit of an odd one it is no pair, though it could be read as one.
func TestEdSignatureWithABitThatMustBe0(t *testing.T) {
	for _, k := range allEds() {
		e := edSecret{k, 0, one}
		verifies(t, "as it is", e.key(), impl.AlgEd, nil, []byte{1, 0, 0, 0, 0, 0}, true)
		verifies(t, "an odd X of 0", e.key(), impl.AlgEd, nil, []byte{1, 0, 128, 0, 0, 0}, false)
		for bit := 4; bit < 7; bit++ {
			verifies(t, "a Y above P", e.key(), impl.AlgEd, nil, []byte{1, 0, 1 << bit, 0, 0, 0}, false)
		}
		above := 1 + k.P
		verifies(t, "a Y of P more", e.key(), impl.AlgEd, nil, append(lowThree(above), 0, 0, 0), false)
	}
}

func TestEdSignatureWithLMore(t *testing.T) {
	s := turn(144)
	for _, k := range allEds() {
		e := s.edSecretOf(k, one)
		msg := []byte("L more")
		sig := e.sign(msg, s.below(k.L), one)
		low := int(sig[3]) + int(sig[4])<<8 + int(sig[5])<<16
		verifies(t, "as it is", e.key(), impl.AlgEd, msg, sig, true)
		for more := low + k.L; more < 1<<24 && more < low+20*k.L; more += k.L {
			verifies(t, fmt.Sprintf("s at %d, L is %d", more, k.L), e.key(), impl.AlgEd, msg, append(sig[:3:3], lowThree(more)...), false)
		}
		slices.Reverse(sig[3:])
		if sig[3] != sig[5] {
			verifies(t, "the highest first", e.key(), impl.AlgEd, msg, sig, false)
		}
	}
}

// s is the nonce where A is (0, 1): L - 1 is one, L and 0 with a bit above it are none.
func TestEdSignatureWithSAtTheEdges(t *testing.T) {
	for _, k := range allEds() {
		e := edSecret{k, 0, one}
		g := edGroup(k)
		for _, s := range []int{0, 1, k.L - 1} {
			pair := g.plainFold(s, g.base)
			r := pairBytes(pair.X, pair.Y)
			verifies(t, fmt.Sprintf("s %d", s), e.key(), impl.AlgEd, []byte("edge"), append(slices.Clone(r), lowThree(s)...), true)
			for bit := range 24 {
				if s < 1<<bit && 1<<bit >= k.L {
					verifies(t, fmt.Sprintf("s %d and bit %d", s, bit), e.key(), impl.AlgEd, []byte("edge"), append(slices.Clone(r), lowThree(s|1<<bit)...), false)
				}
			}
		}
		r := pairBytes(0, 1)
		verifies(t, "s L", e.key(), impl.AlgEd, []byte("edge"), append(r, lowThree(k.L)...), false)
	}
}

// R and A and the message are told as one: what is at the end of one is not at the beginning of the other.
func TestEdSignatureIsOfRAndAAndTheMessage(t *testing.T) {
	s := turn(145)
	for _, k := range greatEds()[:5] {
		e := s.edSecretOf(k, one)
		msg := s.someBytes(10)
		g := edGroup(k)
		nonce := s.below(k.L)
		pair := g.plainFold(nonce, g.base)
		r, a := pairBytes(pair.X, pair.Y), pairBytes(e.a.X, e.a.Y)
		for what, h := range map[string][]byte{
			"of the message": shortOf(msg), "without A": shortOf(r, msg), "without R": shortOf(a, msg),
			"A ahead of R": shortOf(a, r, msg), "the message ahead": shortOf(msg, r, a), "of the digest": shortOf(r, a, shortOf(msg)),
		} {
			low := (nonce + restOf(h, k.L)*e.secret) % k.L
			verifies(t, what, e.key(), impl.AlgEd, msg, append(slices.Clone(r), lowThree(low)...), false)
		}
		verifies(t, "as it is", e.key(), impl.AlgEd, msg, e.sign(msg, nonce, one), true)
	}
}
