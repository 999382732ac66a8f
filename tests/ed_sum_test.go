package tests

import (
	"fmt"
	"testing"

	"loop.example/g00148/impl"
)

func TestPairsAreAGroup(t *testing.T) {
	for _, k := range smallEds() {
		edGroup(k).isAGroup(t)
	}
}

func TestGreatPairsAreAGroup(t *testing.T) {
	s := turn(72)
	for _, k := range greatEds() {
		edGroup(k).isAGroupAtLarge(t, &s)
	}
}

func TestPairSumsByHand(t *testing.T) {
	k := smallEds()[0]
	b, side := impl.Pair{X: 76, Y: 22}, impl.Pair{X: 25, Y: 22}
	// By 101: 76^2 leaves 19 and 22^2 leaves 80, so m = 12 * 19 * 80 leaves 60; X = 2 * 76 * 22 / 61 and Y = (80 + 19) / -59, with 61 * 53 and 42 * 89 leaving 1.
	twice := impl.Pair{X: 2 * 76 * 22 * 53 % 101, Y: 99 * 89 % 101}
	for _, c := range []struct{ a, b, want impl.Pair }{
		{b, b, twice}, {b, side, one}, {side, b, one}, {b, one, b}, {one, b, b}, {one, one, one},
		{impl.Pair{Y: 100}, impl.Pair{Y: 100}, one}, {impl.Pair{Y: 100}, b, impl.Pair{X: 25, Y: 79}}, {b, impl.Pair{Y: 100}, impl.Pair{X: 25, Y: 79}},
		// 10 is a root of -1: a pair with Y 0, four times which is (0, 1).
		{impl.Pair{X: 10}, impl.Pair{X: 10}, impl.Pair{Y: 100}}, {impl.Pair{X: 10}, impl.Pair{X: 91}, one},
	} {
		got, ok := impl.EdAdd(k, c.a, c.b)
		sameElement(t, fmt.Sprintf("EdAdd(%+v, %v, %v)", k, c.a, c.b), got, ok, c.want)
	}
}

func TestPairSumsAtTheEdges(t *testing.T) {
	s := turn(73)
	for _, k := range allEds() {
		g := edGroup(k)
		list := s.somePairs(k)
		for _, a := range list {
			g.same(t, "with (0, 1)", g.sum(t, a, one), a)
			g.same(t, "(0, 1) with it", g.sum(t, one, a), a)
			g.same(t, "with its other side", g.sum(t, a, otherPair(k, a)), one)
			g.same(t, "its other side with it", g.sum(t, otherPair(k, a), a), one)
			g.same(t, "with (0, -1)", g.sum(t, a, impl.Pair{Y: k.P - 1}), impl.Pair{X: bigRest(-a.X, k.P), Y: bigRest(-a.Y, k.P)})
			for _, b := range list {
				g.same(t, "a sum", g.sum(t, a, b), twistSum(k, a, b))
			}
		}
	}
}

func TestEdMulIsTheSumOfSoMany(t *testing.T) {
	for _, k := range smallEds() {
		edGroup(k).foldsAreSums(t)
	}
}

func TestPairMultiplesAddUp(t *testing.T) {
	s := turn(74)
	for _, k := range allEds() {
		edGroup(k).multiplesAddUp(t, &s)
	}
}

func TestEdMulAtTheEdges(t *testing.T) {
	s := turn(75)
	for _, k := range allEds() {
		edGroup(k).foldsAtTheEdges(t, &s)
	}
}

func TestLFoldOfEachMultipleIsOne(t *testing.T) {
	for _, k := range smallEds() {
		g := edGroup(k)
		for n := range k.L + 2 {
			g.same(t, "the L-fold of a multiple of B", g.fold(t, k.L, g.fold(t, n, g.base)), one)
		}
	}
	s := turn(76)
	for _, k := range greatEds() {
		g := edGroup(k)
		for range 50 {
			a := g.fold(t, s.below(1<<31)*s.below(1<<9), g.base)
			g.same(t, "the L-fold of a multiple of B", g.fold(t, k.L, a), one)
		}
	}
}

// takesEight holds EdCofactor against EdMul, and both against what is reckoned apart.
func takesEight(t *testing.T, k impl.Ed, a impl.Pair) {
	t.Helper()
	g := edGroup(k)
	got, ok := impl.EdCofactor(k, a)
	sameElement(t, fmt.Sprintf("EdCofactor(%+v, %v)", k, a), got, ok, g.plainFold(8, a))
	g.same(t, "8 times", g.fold(t, 8, a), got)
}

func TestEdCofactorIsEightTimes(t *testing.T) {
	for _, k := range smallEds() {
		for _, a := range pairsOf(k) {
			takesEight(t, k, a)
		}
	}
	s := turn(77)
	for _, k := range greatEds() {
		for range 20 {
			for _, a := range s.somePairs(k) {
				takesEight(t, k, a)
			}
		}
	}
}
