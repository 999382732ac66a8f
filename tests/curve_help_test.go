package tests

import (
	"fmt"
	"math"

	"loop.example/g00148/impl"
)

var far = impl.Point{Far: true}

// The greatest P that there is, one beyond MaxPrime, and one that leaves 1 by 4; each with as many points as its N.
var (
	topCurve    = impl.Curve{P: 1048571, A: 1048568, B: 44, N: 1048189, GX: 0, GY: 293964}
	beyondCurve = impl.Curve{P: 1048583, A: 1048580, B: 16, N: 1048387, GX: 0, GY: 4}
	byOneCurve  = impl.Curve{P: 1048573, A: 1048570, B: 28, N: 1046807, GX: 0, GY: 491691}
)

// planeSum is reckoned apart from the program: its rests by math/big, its quotients by Fermat's rule. P is a prime number below 2^21.
func planeSum(k impl.Curve, a impl.Point, b impl.Point) impl.Point {
	if a.Far {
		return b
	}
	if b.Far {
		return a
	}
	up, down := b.Y-a.Y, b.X-a.X
	if a.X == b.X {
		if bigRest(a.Y+b.Y, k.P) == 0 {
			return far
		}
		up, down = 3*a.X*a.X+k.A, 2*a.Y
	}
	s := bigRest(up, k.P) * bigPowInt(bigRest(down, k.P), k.P-2, k.P)
	s = bigRest(s, k.P)
	x := bigRest(s*s-a.X-b.X, k.P)
	return impl.Point{X: x, Y: bigRest(s*(a.X-x)-a.Y, k.P)}
}

func planeFold(k impl.Curve, n int, a impl.Point) impl.Point {
	return curveGroup(k).plainFold(n, a)
}

func otherSide(k impl.Curve, a impl.Point) impl.Point {
	if a.Far {
		return a
	}
	return impl.Point{X: a.X, Y: (k.P - a.Y) % k.P}
}

func curveGroup(k impl.Curve) group[impl.Point] {
	return group[impl.Point]{
		name: fmt.Sprintf("%+v", k), zero: far, base: impl.Point{X: k.GX, Y: k.GY}, order: k.N,
		add:      func(a impl.Point, b impl.Point) (impl.Point, bool) { return impl.PointAdd(k, a, b) },
		mul:      func(n int, a impl.Point) (impl.Point, bool) { return impl.PointMul(k, n, a) },
		plainSum: func(a impl.Point, b impl.Point) impl.Point { return planeSum(k, a, b) },
		opposite: func(a impl.Point) impl.Point { return otherSide(k, a) },
		all:      func() []impl.Point { return pointsOf(k) },
		any:      func(s *turn) impl.Point { return s.anyPoint(k) },
	}
}

func within(n int, low int, high int) bool {
	return low <= n && n <= high
}

// onPlane wants x and y in 0 .. P - 1 and P below 2^21.
func onPlane(k impl.Curve, x int, y int) bool {
	return bigRest(y*y-bigRest(x*x, k.P)*x-k.A*x-k.B, k.P) == 0
}

// curveFaults are the reasons for which k is no curve. What can't be reckoned for one of them is not asked any more.
func curveFaults(k impl.Curve) []string {
	faults := []string{}
	fault := func(what string, is bool) {
		if is {
			faults = append(faults, what)
		}
	}
	fault("P's range", !within(k.P, 5, 1048576))
	fault("N's range", !within(k.N, 5, 2097152))
	if !within(k.P, 2, 1<<21) {
		return faults
	}
	fault("P is no prime number", !isPrime(k.P))
	fault("P by 4", k.P%4 != 3)
	fault("A's range", !within(k.A, 0, k.P-1))
	fault("B's range", !within(k.B, 0, k.P-1))
	fault("G's range", !within(k.GX, 0, k.P-1) || !within(k.GY, 0, k.P-1))
	fault("N is no prime number", !isPrime(max(k.N, 0)))
	if !within(k.A, -k.P, 2*k.P) || !within(k.B, -k.P, 2*k.P) || !within(k.GX, -k.P, 2*k.P) || !within(k.GY, -k.P, 2*k.P) {
		return faults
	}
	a, b, x, y := bigRest(k.A, k.P), bigRest(k.B, k.P), bigRest(k.GX, k.P), bigRest(k.GY, k.P)
	fault("flat", bigRest(4*bigRest(a*a, k.P)*a+27*b*b, k.P) == 0)
	near := impl.Curve{P: k.P, A: a, B: b}
	fault("G is not of it", !onPlane(near, x, y))
	if isPrime(k.P) && k.N >= 0 {
		fault("N-fold", planeFold(near, k.N, impl.Point{X: x, Y: y}) != far)
	}
	return faults
}

// pointsOf are all points of a curve, found by going through all pairs, the far point first.
func pointsOf(k impl.Curve) []impl.Point {
	list := []impl.Point{far}
	for x := range k.P {
		for y := range k.P {
			if onPlane(k, x, y) {
				list = append(list, impl.Point{X: x, Y: y})
			}
		}
	}
	return list
}

func multiplesOf(k impl.Curve, a impl.Point) []impl.Point {
	return curveGroup(k).multiplesOf(a)
}

// curvesBy are all curves by p that are not flat, each with its first point of each order that wanted takes.
func curvesBy(p int, wanted func(order int) bool) []impl.Curve {
	list := []impl.Curve{}
	for a := range p {
		for b := range p {
			k := impl.Curve{P: p, A: a, B: b}
			if (4*a*a*a+27*b*b)%p == 0 {
				continue
			}
			seen := map[int]bool{}
			for _, g := range pointsOf(k)[1:] {
				k.N, k.GX, k.GY = len(multiplesOf(k, g)), g.X, g.Y
				if wanted(k.N) && !seen[k.N] {
					list = append(list, k)
				}
				seen[k.N] = true
			}
		}
	}
	return list
}

func goodOrder(n int) bool {
	return n >= 5 && isPrime(n)
}

// smallCurves are some with few points: with none, one or all three that have Y 0, and with up to ten times as many points as N.
func smallCurves() []impl.Curve {
	return []impl.Curve{
		{P: 103, A: 2, B: 11, N: 97, GX: 1, GY: 23},
		{P: 7, A: 0, B: 3, N: 13, GX: 1, GY: 2},
		{P: 7, A: 3, B: 5, N: 7, GX: 1, GY: 3},
		{P: 7, A: 6, B: 4, N: 5, GX: 0, GY: 2},
		{P: 11, A: 1, B: 1, N: 7, GX: 0, GY: 1},
		{P: 11, A: 1, B: 7, N: 5, GX: 1, GY: 3},
		{P: 11, A: 6, B: 5, N: 17, GX: 0, GY: 4},
		{P: 19, A: 0, B: 8, N: 7, GX: 2, GY: 4},
		{P: 19, A: 2, B: 0, N: 5, GX: 11, GY: 2},
		{P: 19, A: 6, B: 8, N: 19, GX: 2, GY: 3},
		{P: 19, A: 16, B: 3, N: 5, GX: 6, GY: 7},
		{P: 23, A: 1, B: 8, N: 7, GX: 7, GY: 6},
		{P: 23, A: 8, B: 8, N: 5, GX: 9, GY: 2},
		{P: 23, A: 12, B: 4, N: 7, GX: 4, GY: 1},
		{P: 31, A: 0, B: 3, N: 43, GX: 1, GY: 2},
		{P: 31, A: 3, B: 4, N: 5, GX: 3, GY: 3},
		{P: 31, A: 15, B: 23, N: 17, GX: 8, GY: 2},
		{P: 43, A: 0, B: 2, N: 13, GX: 4, GY: 18},
		{P: 43, A: 1, B: 8, N: 5, GX: 5, GY: 3},
		{P: 43, A: 28, B: 36, N: 11, GX: 0, GY: 6},
	}
}

// sidedCurve has the greatest P, one point with Y 0, and twice as many points as N.
func sidedCurve() (impl.Curve, impl.Point) {
	k := impl.Curve{P: 1048571, A: 1048568, B: 16, N: 523673}
	for x := 0; ; x++ {
		if y := planeRoot(k, x); y > 0 {
			g := planeSum(k, impl.Point{X: x, Y: y}, impl.Point{X: x, Y: y})
			k.GX, k.GY = g.X, g.Y
			break
		}
	}
	for x := 0; ; x++ {
		if onPlane(k, x, 0) {
			return k, impl.Point{X: x}
		}
	}
}

// planeRoot is a Y of a point at x, or -1; P leaves 3 by 4.
func planeRoot(k impl.Curve, x int) int {
	y := bigPowInt(bigRest(bigRest(x*x+k.A, k.P)*x+k.B, k.P), (k.P+1)/4, k.P)
	if !onPlane(k, x, y) {
		return -1
	}
	return y
}

// anyPoint is one of the curve, as if by chance.
func (s *turn) anyPoint(k impl.Curve) impl.Point {
	for {
		x := s.below(k.P)
		if y := planeRoot(k, x); y >= 0 {
			if s.below(2) == 0 {
				y = bigRest(-y, k.P)
			}
			return impl.Point{X: x, Y: y}
		}
	}
}

// greatCurves are those with P as great as can be; the last one has an N above MaxPrime.
func greatCurves() []impl.Curve {
	sided, _ := sidedCurve()
	return []impl.Curve{topCurve, sided, {P: 1048571, A: 1048568, B: 197, N: 1049479, GX: 0, GY: 521830}}
}

// farOff are numbers that no field of a curve or a point may have.
func farOff() []int {
	return []int{-1, math.MinInt, math.MinInt + 1, math.MaxInt, math.MaxInt - 1, 1 << 40, 1 << 62, -1 << 32}
}
