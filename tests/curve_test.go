package tests

import (
	"fmt"
	"slices"
	"testing"

	"loop.example/g00148/impl"
)

// wrongCurves are no curves, each for the one reason that it stands under.
func wrongCurves() map[string][]impl.Curve {
	by13 := curvesBy(13, goodOrder)[0]
	by5 := curvesBy(5, goodOrder)[0]
	byN := func(order int) impl.Curve {
		return curvesBy(19, func(n int) bool { return n == order })[0]
	}
	k := smallCurves()[0]
	list := map[string][]impl.Curve{
		"P's range":            {{P: 3, A: 2, B: 1, N: 7, GX: 0, GY: 1}, beyondCurve},
		"P is no prime number": {{P: 15, A: 2, B: 1, N: 7, GX: 0, GY: 1}},
		"P by 4":               {by5, by13, byOneCurve},
		"flat":                 {{P: 7, A: 0, B: 0, N: 7, GX: 1, GY: 1}, {P: 103, A: 0, B: 0, N: 103, GX: 4, GY: 8}, {P: 1048571, A: 0, B: 0, N: 1048571, GX: 1, GY: 1}},
		"N is no prime number": {byN(6), byN(8), byN(9), byN(12), byN(15)},
		"N's range":            {byN(3), byN(2)},
	}
	// Sums do not ask for B: with another B all but the equation stays as it was.
	for b := range k.P {
		if l := k; b != k.B {
			l.B = b
			if len(curveFaults(l)) == 1 {
				list["G is not of it"] = append(list["G is not of it"], l)
			}
		}
	}
	for _, n := range []int{5, 7, 89, 101, 103, 1048573, 2097143} {
		l := k
		l.N = n
		list["N-fold"] = append(list["N-fold"], l)
	}
	for _, n := range []int{97 * 2, 97 * 97, 97 * 10007, 97 * 21611} {
		l := k
		l.N = n
		list["N is no prime number"] = append(list["N is no prime number"], l)
	}
	return list
}

func TestCurveOkOfRightOnes(t *testing.T) {
	for _, k := range append(smallCurves(), greatCurves()...) {
		if faults := curveFaults(k); len(faults) > 0 || !impl.CurveOk(k) {
			t.Errorf("CurveOk(%+v) is false, or should be so: %v", k, faults)
		}
		if !impl.PointOk(k, far) || !impl.PointOk(k, impl.Point{X: k.GX, Y: k.GY}) {
			t.Errorf("PointOk by %+v of the far point or of G is false", k)
		}
	}
	for _, order := range []int{5, 7, 11, 13} {
		for _, k := range curvesBy(11, func(n int) bool { return n == order }) {
			if !impl.CurveOk(k) {
				t.Errorf("CurveOk(%+v) is false", k)
			}
		}
	}
}

func TestCurveOkForOneReasonOnly(t *testing.T) {
	for reason, curves := range wrongCurves() {
		if len(curves) == 0 {
			t.Errorf("no curve is wrong for %s", reason)
		}
		for _, k := range curves {
			if faults := curveFaults(k); !slices.Equal(faults, []string{reason}) {
				t.Errorf("%+v is wrong for %v, not for %s alone", k, faults, reason)
			}
			if impl.CurveOk(k) {
				t.Errorf("CurveOk(%+v) is true: %s", k, reason)
			}
		}
	}
}

// fieldsOf are a curve's numbers, so that each can be made another one.
func fieldsOf(k *impl.Curve) map[string]*int {
	return map[string]*int{"P": &k.P, "A": &k.A, "B": &k.B, "N": &k.N, "GX": &k.GX, "GY": &k.GY}
}

func TestCurveOkByPMoreOrLess(t *testing.T) {
	for _, k := range append(smallCurves(), greatCurves()...) {
		for name := range fieldsOf(&k) {
			for _, shift := range []int{-k.P, k.P} {
				l := k
				*fieldsOf(&l)[name] += shift
				if impl.CurveOk(l) {
					t.Errorf("CurveOk(%+v) is true, %s being P too much or too little", l, name)
				}
			}
		}
	}
}

// basesOf are all curves by p, each with each multiple of its G that is not far as G.
func basesOf(p int) []impl.Curve {
	list := []impl.Curve{}
	for _, k := range curvesBy(p, goodOrder) {
		for _, g := range multiplesOf(k, impl.Point{X: k.GX, Y: k.GY})[1:] {
			k.GX, k.GY = g.X, g.Y
			list = append(list, k)
		}
	}
	return list
}

func TestCurveOkAtTheEdgesOfTheField(t *testing.T) {
	met := map[string]int{}
	for _, k := range append(basesOf(11), basesOf(19)...) {
		if !impl.CurveOk(k) {
			t.Errorf("CurveOk(%+v) is false", k)
		}
		for _, name := range []string{"A", "B", "GX", "GY"} {
			// -1 and P are the same as P - 1 and 0 by P, but not in the range.
			for _, edge := range [][2]int{{0, k.P}, {k.P - 1, -1}} {
				l := k
				field := fieldsOf(&l)[name]
				if *field != edge[0] {
					continue
				}
				met[fmt.Sprint(name, " at ", edge[1] == -1)]++
				*field = edge[1]
				if impl.CurveOk(l) {
					t.Errorf("CurveOk(%+v) is true", l)
				}
			}
		}
	}
	// A G with GY 0 would have the order 2, so seven of the eight edges are there.
	if len(met) != 7 {
		t.Errorf("not all edges were met: %v", met)
	}
}

func TestCurveOkOfAllSmallOnes(t *testing.T) {
	right := 0
	for _, p := range []int{3, 4, 5, 7, 8, 9, 11} {
		for place := range (p + 2) * (p + 2) * (p + 2) * (p + 2) {
			k := impl.Curve{P: p, A: place%(p+2) - 1, B: place/(p+2)%(p+2) - 1, GX: place/(p+2)/(p+2)%(p+2) - 1, GY: place/(p+2)/(p+2)/(p+2) - 1}
			inField := min(k.A, k.B, k.GX, k.GY) >= 0 && max(k.A, k.B, k.GX, k.GY) < p
			order := 0
			if inField && (p == 7 || p == 11) && (4*k.A*k.A*k.A+27*k.B*k.B)%p != 0 && onPlane(k, k.GX, k.GY) {
				order = len(multiplesOf(k, impl.Point{X: k.GX, Y: k.GY}))
			}
			for n := -1; n <= p+8; n++ {
				k.N = n
				want := n == order && goodOrder(n)
				if want {
					right++
				}
				if impl.CurveOk(k) != want {
					t.Fatalf("CurveOk(%+v) is %v", k, !want)
				}
			}
		}
	}
	if right < 100 {
		t.Errorf("only %d right ones were looked at", right)
	}
}

func TestCurveOkByPAsItIs(t *testing.T) {
	curves := append(smallCurves(), greatCurves()...)
	for _, p := range []int{-7, -1, 0, 1, 2, 3, 4, 5, 6, 8, 9, 13, 15, 17, 27, 35, 1048575, 1048576, 1048573, 1048583, 1048577, 2097143} {
		for _, k := range curves {
			k.P = p
			if impl.CurveOk(k) {
				t.Errorf("CurveOk(%+v) is true", k)
			}
		}
	}
	for _, name := range []string{"P", "A", "B", "N", "GX", "GY"} {
		for _, n := range farOff() {
			for _, k := range []impl.Curve{smallCurves()[0], topCurve, {}} {
				*fieldsOf(&k)[name] = n
				if impl.CurveOk(k) {
					t.Errorf("CurveOk(%+v) is true", k)
				}
			}
		}
	}
	if impl.CurveOk(impl.Curve{}) {
		t.Error("CurveOk of the zero value is true")
	}
}

func TestCurveOkByN(t *testing.T) {
	for _, k := range append(smallCurves(), greatCurves()...) {
		right := k.N
		for _, n := range []int{0, 1, 2, 3, 4, 5, 7, right - 1, right, right + 1, 2 * right, right * right, -right, 2097143, 2097152, 2097169, 1<<40 - 87} {
			k.N = n
			if impl.CurveOk(k) != (n == right) {
				t.Errorf("CurveOk(%+v) is %v", k, n != right)
			}
		}
	}
	if !isPrime(2097143) || !isPrime(2097169) {
		t.Error("the numbers next to 2 MaxPrime that are looked at are not prime")
	}
}

func TestPointOkIsJustOfThePointsOfTheCurve(t *testing.T) {
	for _, k := range smallCurves() {
		of := map[impl.Point]bool{}
		for _, a := range pointsOf(k) {
			of[a] = true
		}
		for x := -1; x <= k.P; x++ {
			for y := -1; y <= k.P; y++ {
				for _, a := range []impl.Point{{X: x, Y: y}, {X: x, Y: y, Far: true}} {
					if impl.PointOk(k, a) != of[a] {
						t.Errorf("PointOk(%+v, %+v) is %v", k, a, !of[a])
					}
				}
			}
		}
	}
}

func TestPointOkOfGreatOnes(t *testing.T) {
	s := turn(41)
	for _, k := range greatCurves() {
		for range 200 {
			a := s.anyPoint(k)
			if !impl.PointOk(k, a) {
				t.Errorf("PointOk(%+v, %+v) is false", k, a)
			}
			for _, b := range wrongPoints(k, a) {
				if impl.PointOk(k, b) {
					t.Errorf("PointOk(%+v, %+v) is true", k, b)
				}
			}
		}
	}
}

// wrongPoints are made of a point of the curve that is not far.
func wrongPoints(k impl.Curve, a impl.Point) []impl.Point {
	list := []impl.Point{
		{X: a.X + k.P, Y: a.Y}, {X: a.X - k.P, Y: a.Y}, {X: a.X, Y: a.Y + k.P}, {X: a.X, Y: a.Y - k.P}, {X: a.X, Y: k.P}, {X: k.P, Y: a.Y},
		{X: 0, Y: 1, Far: true}, {X: 1, Y: 0, Far: true}, {X: a.X, Y: a.Y, Far: true}, {X: -1, Far: true}, {Y: -1, Far: true},
	}
	if a.X == 0 && a.Y == 0 {
		list[8].X = 1
	}
	if next := (a.Y + 1) % k.P; !onPlane(k, a.X, next) {
		list = append(list, impl.Point{X: a.X, Y: next})
	}
	for _, n := range farOff() {
		list = append(list, impl.Point{X: n, Y: a.Y}, impl.Point{X: a.X, Y: n}, impl.Point{X: n, Y: n}, impl.Point{X: n, Far: true}, impl.Point{Y: n, Far: true})
	}
	return list
}
