package tests

import (
	"fmt"
	"math"
	"testing"

	"loop.example/g00148/impl"
)

func sum(t *testing.T, k impl.Curve, a impl.Point, b impl.Point) impl.Point {
	t.Helper()
	c, ok := impl.PointAdd(k, a, b)
	if !ok {
		t.Errorf("PointAdd(%+v, %v, %v) is false", k, a, b)
	}
	return c
}

func fold(t *testing.T, k impl.Curve, n int, a impl.Point) impl.Point {
	t.Helper()
	c, ok := impl.PointMul(k, n, a)
	if !ok {
		t.Errorf("PointMul(%+v, %d, %v) is false", k, n, a)
	}
	return c
}

func otherSide(k impl.Curve, a impl.Point) impl.Point {
	if a.Far {
		return a
	}
	return impl.Point{X: a.X, Y: (k.P - a.Y) % k.P}
}

// sumsOf are the places of all sums among the points, as the program tells them.
func sumsOf(t *testing.T, k impl.Curve, points []impl.Point) [][]int {
	t.Helper()
	place := map[impl.Point]int{}
	for i, a := range points {
		place[a] = i
	}
	sums := make([][]int, len(points))
	for i, a := range points {
		for _, b := range points {
			c := sum(t, k, a, b)
			at, of := place[c]
			if !of {
				t.Fatalf("PointAdd(%+v, %v, %v) is %v, which is not of the curve", k, a, b, c)
			}
			if want := planeSum(k, a, b); c != want {
				t.Errorf("PointAdd(%+v, %v, %v): got %v, want %v", k, a, b, c, want)
			}
			sums[i] = append(sums[i], at)
		}
	}
	return sums
}

func TestPointsAreAGroup(t *testing.T) {
	for _, k := range smallCurves() {
		points := pointsOf(k)
		sums := sumsOf(t, k, points)
		for i, a := range points {
			if sums[i][0] != i || sums[0][i] != i {
				t.Errorf("by %+v: %v and the far point are not %v", k, a, a)
			}
			if c := sum(t, k, a, otherSide(k, a)); c != far {
				t.Errorf("by %+v: %v and its other side are %v", k, a, c)
			}
			for j := range points {
				if sums[i][j] != sums[j][i] {
					t.Errorf("by %+v: %v and %v turned about are another one", k, a, points[j])
				}
				for l := range points {
					if sums[sums[i][j]][l] != sums[i][sums[j][l]] {
						t.Fatalf("by %+v: %v, %v and %v put together otherwise are another one", k, a, points[j], points[l])
					}
				}
			}
		}
	}
}

func TestGreatPointsAreAGroup(t *testing.T) {
	s := turn(42)
	for _, k := range greatCurves() {
		for range 300 {
			a, b, c := s.anyPoint(k), s.anyPoint(k), s.anyPoint(k)
			ab := sum(t, k, a, b)
			samePoint(t, "a sum", ab, true, planeSum(k, a, b))
			samePoint(t, "a sum turned about", sum(t, k, b, a), true, ab)
			samePoint(t, "three put together otherwise", sum(t, k, ab, c), true, sum(t, k, a, sum(t, k, b, c)))
			samePoint(t, "with its other side", sum(t, k, a, otherSide(k, a)), true, far)
			samePoint(t, "with itself", sum(t, k, a, a), true, planeSum(k, a, a))
			samePoint(t, "with the far point", sum(t, k, a, far), true, a)
			samePoint(t, "the far point with it", sum(t, k, far, a), true, a)
			samePoint(t, "less one", sum(t, k, ab, otherSide(k, b)), true, a)
		}
	}
}

func TestSumsAtTheEdges(t *testing.T) {
	k := smallCurves()[0]
	for _, a := range []impl.Point{far, {X: 1, Y: 23}, {X: 1, Y: 80}} {
		samePoint(t, "with the far point", sum(t, k, a, far), true, a)
		samePoint(t, "the far point with it", sum(t, k, far, a), true, a)
	}
	samePoint(t, "two sides", sum(t, k, impl.Point{X: 1, Y: 23}, impl.Point{X: 1, Y: 80}), true, far)
	samePoint(t, "two sides turned about", sum(t, k, impl.Point{X: 1, Y: 80}, impl.Point{X: 1, Y: 23}), true, far)
	// By hand: s = (3 + 2) / 46 by 103, and 46 times 56 leaves 1, so s is 280 - 206 = 74; X = 5476 - 2 leaves 15, Y = 74 (1 - 15) - 23 leaves 74.
	samePoint(t, "with itself", sum(t, k, impl.Point{X: 1, Y: 23}, impl.Point{X: 1, Y: 23}), true, impl.Point{X: 15, Y: 74})

	met := 0
	for _, k := range smallCurves() {
		for _, a := range pointsOf(k) {
			if !a.Far && a.Y == 0 {
				met++
				samePoint(t, "with itself, Y being 0", sum(t, k, a, a), true, far)
				samePoint(t, "twice, Y being 0", fold(t, k, 2, a), true, far)
				samePoint(t, "three times, Y being 0", fold(t, k, 3, a), true, a)
				samePoint(t, "2^40 times, Y being 0", fold(t, k, 1<<40, a), true, far)
			}
		}
	}
	if met < 6 {
		t.Errorf("only %d points have Y 0", met)
	}
	sided, flip := sidedCurve()
	samePoint(t, "a great one with itself, Y being 0", sum(t, sided, flip, flip), true, far)
	if c := fold(t, sided, sided.N, flip); c != flip {
		t.Errorf("an odd fold of a point with Y 0 is %v", c)
	}
}

func TestPointMulIsTheSumOfSoMany(t *testing.T) {
	for _, k := range smallCurves() {
		for _, a := range pointsOf(k) {
			list := multiplesOf(k, a)
			told := far
			for n := range 2*len(list) + 2 {
				samePoint(t, fmt.Sprintf("PointMul(%+v, %d, %v)", k, n, a), fold(t, k, n, a), true, list[n%len(list)])
				samePoint(t, "sums one by one", told, true, list[n%len(list)])
				told = sum(t, k, told, a)
			}
		}
	}
}

func TestNFoldOfEachMultipleIsFar(t *testing.T) {
	for _, k := range smallCurves() {
		for n := range k.N + 2 {
			a := fold(t, k, n, impl.Point{X: k.GX, Y: k.GY})
			samePoint(t, "the N-fold of a multiple of G", fold(t, k, k.N, a), true, far)
		}
	}
	s := turn(43)
	for _, k := range greatCurves() {
		for range 100 {
			a := fold(t, k, s.below(1<<31)*s.below(1<<9), impl.Point{X: k.GX, Y: k.GY})
			samePoint(t, "the N-fold of a multiple of G", fold(t, k, k.N, a), true, far)
		}
	}
}

func TestMultiplesAddUp(t *testing.T) {
	s := turn(44)
	for _, k := range append(smallCurves(), greatCurves()...) {
		for range 30 {
			a := s.anyPoint(k)
			m, n := s.below(1<<31)*s.below(1<<8), s.below(1<<31)*s.below(1<<8)
			samePoint(t, "two multiples", sum(t, k, fold(t, k, m, a), fold(t, k, n, a)), true, fold(t, k, m+n, a))
			samePoint(t, "a multiple", fold(t, k, m, a), true, planeFold(k, m, a))
			m, n = m%(1<<20), n%(1<<20)
			samePoint(t, "a multiple of a multiple", fold(t, k, m, fold(t, k, n, a)), true, fold(t, k, m*n, a))
		}
	}
}

// foldEdges are the numbers of times that the document names, and those near by.
func foldEdges(k impl.Curve) []int {
	return []int{0, 1, 2, 3, k.N - 1, k.N, k.N + 1, 2 * k.N, 1<<39 + 1, 1<<40 - 1, 1 << 40}
}

func wrongFolds() []int {
	return []int{-1, -2, 1<<40 + 1, 1 << 41, 1 << 62, math.MaxInt, math.MinInt, -1 << 40}
}

func TestPointMulAtTheEdges(t *testing.T) {
	s := turn(45)
	for _, k := range append(smallCurves(), greatCurves()...) {
		g := impl.Point{X: k.GX, Y: k.GY}
		samePoint(t, "0 times", fold(t, k, 0, g), true, far)
		samePoint(t, "once", fold(t, k, 1, g), true, g)
		samePoint(t, "N - 1 times", fold(t, k, k.N-1, g), true, otherSide(k, g))
		samePoint(t, "N times", fold(t, k, k.N, g), true, far)
		samePoint(t, "N + 1 times", fold(t, k, k.N+1, g), true, g)
		for _, a := range []impl.Point{far, g, otherSide(k, g), s.anyPoint(k)} {
			for _, n := range foldEdges(k) {
				samePoint(t, "PointMul", fold(t, k, n, a), true, planeFold(k, n, a))
			}
			for _, n := range wrongFolds() {
				c, ok := impl.PointMul(k, n, a)
				refusedPoint(t, fmt.Sprintf("PointMul %d times", n), c, ok)
			}
		}
	}
}

func TestTwoMulIsBothTogether(t *testing.T) {
	s := turn(46)
	for _, k := range append(smallCurves(), greatCurves()...) {
		g := impl.Point{X: k.GX, Y: k.GY}
		for _, q := range []impl.Point{far, g, otherSide(k, g), s.anyPoint(k)} {
			for _, u := range foldEdges(k) {
				for _, v := range foldEdges(k) {
					got, ok := impl.TwoMul(k, u, v, q)
					samePoint(t, fmt.Sprintf("TwoMul(%+v, %d, %d, %v)", k, u, v, q), got, ok, sum(t, k, fold(t, k, u, g), fold(t, k, v, q)))
				}
				for _, wrong := range wrongFolds() {
					got, ok := impl.TwoMul(k, u, wrong, q)
					refusedPoint(t, "TwoMul by a wrong v", got, ok)
					got, ok = impl.TwoMul(k, wrong, u, q)
					refusedPoint(t, "TwoMul by a wrong u", got, ok)
					got, ok = impl.TwoMul(k, wrong, wrong, q)
					refusedPoint(t, "TwoMul by two wrong ones", got, ok)
				}
			}
		}
	}
}

func TestTwoMulOfAllSmallOnes(t *testing.T) {
	k := curvesBy(23, goodOrder)[0]
	multiples := multiplesOf(k, impl.Point{X: k.GX, Y: k.GY})
	for _, q := range pointsOf(k) {
		for u := range k.N + 1 {
			for v := range k.N + 1 {
				got, ok := impl.TwoMul(k, u, v, q)
				samePoint(t, "TwoMul", got, ok, planeSum(k, multiples[u%k.N], planeFold(k, v, q)))
			}
		}
	}
}
