package tests

import (
	"fmt"
	"testing"

	"loop.example/g00148/impl"
)

// allRefusePair calls every function with k and a, which are not both right.
func allRefusePair(t *testing.T, k impl.Ed, a impl.Pair, right impl.Pair) {
	t.Helper()
	what := fmt.Sprintf("%+v, %+v", k, a)
	if impl.PairOk(k, a) {
		t.Errorf("PairOk, %s is true", what)
	}
	for _, b := range []impl.Pair{a, right, one} {
		c, ok := impl.EdAdd(k, a, b)
		refusedElement(t, "EdAdd, "+what, c, ok)
		c, ok = impl.EdAdd(k, b, a)
		refusedElement(t, "EdAdd turned about, "+what, c, ok)
	}
	for _, n := range []int{-1, 0, 1, 2, 8, 11, 1 << 40, 1<<40 + 1} {
		c, ok := impl.EdMul(k, n, a)
		refusedElement(t, "EdMul, "+what, c, ok)
	}
	c, ok := impl.EdCofactor(k, a)
	refusedElement(t, "EdCofactor, "+what, c, ok)
	b, ok := impl.EdBytes(k, a)
	refused(t, "EdBytes, "+what, b, ok)
}

func TestWrongEdsAreRefused(t *testing.T) {
	list := []impl.Ed{{}, {P: 13}, {P: 1048573, L: 5}, {P: 5, D: 2, L: 5, BX: 2, BY: 0}}
	for _, eds := range wrongEds() {
		list = append(list, eds...)
	}
	for _, k := range list {
		base := impl.Pair{X: k.BX, Y: k.BY}
		for _, a := range []impl.Pair{one, base, {}, {X: 1, Y: 1}, {X: -1, Y: -1}, {Y: k.P - 1}} {
			allRefusePair(t, k, a, base)
		}
		for _, b := range [][]byte{nil, {1}, {1, 0, 0}, {0, 0, 0}, {22, 0, 0}, {22, 0, 128}, {byte(k.BY), byte(k.BY >> 8), byte(k.BY >> 16)}, {1, 0, 0, 0}} {
			c, ok := impl.EdRead(k, b)
			refusedElement(t, fmt.Sprintf("EdRead by a wrong %+v of %v", k, b), c, ok)
		}
	}
}

func TestExtremeEdsAreRefused(t *testing.T) {
	for _, name := range []string{"P", "D", "L", "BX", "BY"} {
		for _, n := range append(farOff(), 0) {
			for _, k := range []impl.Ed{topEd, smallEds()[0]} {
				base := impl.Pair{X: k.BX, Y: k.BY}
				*edFields(&k)[name] = n
				allRefusePair(t, k, one, base)
				allRefusePair(t, k, base, base)
				for _, b := range [][]byte{{1, 0, 0}, pairBytes(base.X, base.Y)} {
					c, ok := impl.EdRead(k, b)
					refusedElement(t, "EdRead by an extreme one", c, ok)
				}
			}
		}
	}
}

func TestWrongPairsAreRefused(t *testing.T) {
	s := turn(91)
	for _, k := range allEds() {
		base := impl.Pair{X: k.BX, Y: k.BY}
		for _, a := range []impl.Pair{one, base, s.anyPair(k)} {
			for _, b := range wrongPairs(k, a) {
				allRefusePair(t, k, b, base)
			}
		}
	}
}

func TestEdBytesStandAlone(t *testing.T) {
	k := smallEds()[0]
	for _, a := range append(pairsOf(k), impl.Pair{X: -1}) {
		answersStandAlone(t, fmt.Sprintf("EdBytes(%v)", a), func() ([]byte, bool) { return impl.EdBytes(k, a) })
	}
}

func TestEdReadStandsAlone(t *testing.T) {
	k := smallEds()[0]
	texts := []string{"", "\x01", "\x16\x00", "\x16\x00\x00\x00", "\xff\xff\xff", "\x65\x00\x00", "\x01\x00\x80"}
	for text := range pairReaders(k) {
		texts = append(texts, text, text[:2])
	}
	readStandsAlone(t, texts, func(b []byte) (impl.Pair, bool) { return impl.EdRead(k, b) })
}

func TestEdsEndSoon(t *testing.T) {
	k := topEd
	base := impl.Pair{X: k.BX, Y: k.BY}
	text := pairBytes(base.X, base.Y)
	endsSoon(t, "2000 times each function", func() {
		for range 2000 {
			impl.EdOk(k)
			impl.PairOk(k, base)
			impl.EdAdd(k, base, base)
			impl.EdMul(k, 1<<40-1, base)
			impl.EdCofactor(k, base)
			impl.EdBytes(k, base)
			impl.EdRead(k, text)
		}
	})
	endsSoon(t, "the far end of all numbers", func() {
		for _, n := range farOff() {
			impl.EdOk(impl.Ed{P: n, D: n, L: n, BX: n, BY: n})
			impl.EdOk(impl.Ed{P: k.P, D: k.D, L: n, BX: 1, BY: 1})
			impl.EdMul(k, n, base)
			impl.EdAdd(k, impl.Pair{X: n, Y: n}, base)
		}
		impl.EdRead(k, make([]byte, 1<<24))
	})
}
