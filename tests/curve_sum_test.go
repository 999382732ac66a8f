package tests

import (
	"fmt"
	"testing"

	"loop.example/g00148/impl"
)

func sum(t *testing.T, k impl.Curve, a impl.Point, b impl.Point) impl.Point {
	t.Helper()
	return curveGroup(k).sum(t, a, b)
}

func fold(t *testing.T, k impl.Curve, n int, a impl.Point) impl.Point {
	t.Helper()
	return curveGroup(k).fold(t, n, a)
}

func TestPointsAreAGroup(t *testing.T) {
	for _, k := range smallCurves() {
		curveGroup(k).isAGroup(t)
	}
}

func TestGreatPointsAreAGroup(t *testing.T) {
	s := turn(42)
	for _, k := range greatCurves() {
		curveGroup(k).isAGroupAtLarge(t, &s)
	}
}

func TestSumsAtTheEdges(t *testing.T) {
	k := smallCurves()[0]
	for _, a := range []impl.Point{far, {X: 1, Y: 23}, {X: 1, Y: 80}} {
		sameElement(t, "with the far point", sum(t, k, a, far), true, a)
		sameElement(t, "the far point with it", sum(t, k, far, a), true, a)
	}
	sameElement(t, "two sides", sum(t, k, impl.Point{X: 1, Y: 23}, impl.Point{X: 1, Y: 80}), true, far)
	sameElement(t, "two sides turned about", sum(t, k, impl.Point{X: 1, Y: 80}, impl.Point{X: 1, Y: 23}), true, far)
	// By hand: s = (3 + 2) / 46 by 103, and 46 times 56 leaves 1, so s is 280 - 206 = 74; X = 5476 - 2 leaves 15, Y = 74 (1 - 15) - 23 leaves 74.
	sameElement(t, "with itself", sum(t, k, impl.Point{X: 1, Y: 23}, impl.Point{X: 1, Y: 23}), true, impl.Point{X: 15, Y: 74})

	met := 0
	for _, k := range smallCurves() {
		for _, a := range pointsOf(k) {
			if !a.Far && a.Y == 0 {
				met++
				sameElement(t, "with itself, Y being 0", sum(t, k, a, a), true, far)
				sameElement(t, "twice, Y being 0", fold(t, k, 2, a), true, far)
				sameElement(t, "three times, Y being 0", fold(t, k, 3, a), true, a)
				sameElement(t, "2^40 times, Y being 0", fold(t, k, 1<<40, a), true, far)
			}
		}
	}
	if met < 6 {
		t.Errorf("only %d points have Y 0", met)
	}
	sided, flip := sidedCurve()
	sameElement(t, "a great one with itself, Y being 0", sum(t, sided, flip, flip), true, far)
	if c := fold(t, sided, sided.N, flip); c != flip {
		t.Errorf("an odd fold of a point with Y 0 is %v", c)
	}
}

func TestPointMulIsTheSumOfSoMany(t *testing.T) {
	for _, k := range smallCurves() {
		curveGroup(k).foldsAreSums(t)
	}
}

func TestNFoldOfEachMultipleIsFar(t *testing.T) {
	for _, k := range smallCurves() {
		for n := range k.N + 2 {
			a := fold(t, k, n, impl.Point{X: k.GX, Y: k.GY})
			sameElement(t, "the N-fold of a multiple of G", fold(t, k, k.N, a), true, far)
		}
	}
	s := turn(43)
	for _, k := range greatCurves() {
		for range 100 {
			a := fold(t, k, s.below(1<<31)*s.below(1<<9), impl.Point{X: k.GX, Y: k.GY})
			sameElement(t, "the N-fold of a multiple of G", fold(t, k, k.N, a), true, far)
		}
	}
}

func TestMultiplesAddUp(t *testing.T) {
	s := turn(44)
	for _, k := range append(smallCurves(), greatCurves()...) {
		curveGroup(k).multiplesAddUp(t, &s)
	}
}

func TestPointMulAtTheEdges(t *testing.T) {
	s := turn(45)
	for _, k := range append(smallCurves(), greatCurves()...) {
		curveGroup(k).foldsAtTheEdges(t, &s)
	}
}

func TestTwoMulIsBothTogether(t *testing.T) {
	s := turn(46)
	for _, k := range append(smallCurves(), greatCurves()...) {
		g := impl.Point{X: k.GX, Y: k.GY}
		for _, q := range []impl.Point{far, g, otherSide(k, g), s.anyPoint(k)} {
			for _, u := range foldEdges(k.N) {
				for _, v := range foldEdges(k.N) {
					got, ok := impl.TwoMul(k, u, v, q)
					sameElement(t, fmt.Sprintf("TwoMul(%+v, %d, %d, %v)", k, u, v, q), got, ok, sum(t, k, fold(t, k, u, g), fold(t, k, v, q)))
				}
				for _, wrong := range wrongFolds() {
					got, ok := impl.TwoMul(k, u, wrong, q)
					refusedElement(t, "TwoMul by a wrong v", got, ok)
					got, ok = impl.TwoMul(k, wrong, u, q)
					refusedElement(t, "TwoMul by a wrong u", got, ok)
					got, ok = impl.TwoMul(k, wrong, wrong, q)
					refusedElement(t, "TwoMul by two wrong ones", got, ok)
				}
			}
		}
	}
}

func TestTwoMulOfAllSmallOnes(t *testing.T) {
	k := curvesBy(23, goodOrder)[0]
	multiples := multiplesOf(k, impl.Point{X: k.GX, Y: k.GY})
	for _, q := range pointsOf(k) {
		for u := range k.N + 1 {
			for v := range k.N + 1 {
				got, ok := impl.TwoMul(k, u, v, q)
				sameElement(t, "TwoMul", got, ok, planeSum(k, multiples[u%k.N], planeFold(k, v, q)))
			}
		}
	}
}
