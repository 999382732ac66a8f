package tests

import (
	"fmt"
	"testing"

	"loop.example/g00148/impl"
)

// allRefuse calls every function with k and a, which are not both right.
func allRefuse(t *testing.T, what string, k impl.Curve, a impl.Point, right impl.Point) {
	t.Helper()
	what = fmt.Sprintf("%s: %+v, %+v", what, k, a)
	if impl.PointOk(k, a) {
		t.Errorf("%s: PointOk is true", what)
	}
	for _, b := range []impl.Point{a, right, far} {
		c, ok := impl.PointAdd(k, a, b)
		refusedElement(t, "PointAdd, "+what, c, ok)
		c, ok = impl.PointAdd(k, b, a)
		refusedElement(t, "PointAdd turned about, "+what, c, ok)
	}
	for _, n := range []int{-1, 0, 1, 2, 97, 1 << 40, 1<<40 + 1} {
		c, ok := impl.PointMul(k, n, a)
		refusedElement(t, "PointMul, "+what, c, ok)
		c, ok = impl.TwoMul(k, n, 0, a)
		refusedElement(t, "TwoMul, "+what, c, ok)
		c, ok = impl.TwoMul(k, 1, n, a)
		refusedElement(t, "TwoMul, "+what, c, ok)
	}
	for _, short := range []bool{false, true} {
		b, ok := impl.PointBytes(k, a, short)
		refused(t, "PointBytes, "+what, b, ok)
	}
}

func TestWrongCurvesAreRefused(t *testing.T) {
	list := []impl.Curve{{}, {P: 7}, {P: 1048571, N: 5}}
	for _, curves := range wrongCurves() {
		list = append(list, curves...)
	}
	for _, k := range list {
		g := impl.Point{X: k.GX, Y: k.GY}
		for _, a := range []impl.Point{far, g, {}, {X: 1, Y: 1}, {X: -1, Y: -1}, {X: 1, Far: true}} {
			allRefuse(t, "a wrong curve", k, a, g)
		}
		for _, b := range [][]byte{nil, {0}, {1}, plainBytes(g, false), plainBytes(g, true), {2, 0, 0, 1}, {3, 0, 0, 1}, {4, 0, 0, 0, 0, 0, 0}} {
			c, ok := impl.PointRead(k, b)
			refusedElement(t, fmt.Sprintf("PointRead by a wrong curve %+v of %v", k, b), c, ok)
		}
	}
}

func TestExtremeCurvesAreRefused(t *testing.T) {
	for _, name := range []string{"P", "A", "B", "N", "GX", "GY"} {
		for _, n := range append(farOff(), 0) {
			for _, k := range []impl.Curve{topCurve, {P: 103, A: 2, B: 11, N: 97, GX: 1, GY: 23}} {
				g := impl.Point{X: k.GX, Y: k.GY}
				l := k
				*fieldsOf(&l)[name] = n
				if l == k || impl.CurveOk(l) && n == 0 {
					continue
				}
				allRefuse(t, "an extreme curve", l, far, g)
				allRefuse(t, "an extreme curve", l, g, g)
				for _, b := range [][]byte{{0}, plainBytes(g, false), plainBytes(g, true)} {
					c, ok := impl.PointRead(l, b)
					refusedElement(t, "PointRead by an extreme curve", c, ok)
				}
			}
		}
	}
}

func TestWrongPointsAreRefused(t *testing.T) {
	s := turn(61)
	for _, k := range append(smallCurves(), greatCurves()...) {
		g := impl.Point{X: k.GX, Y: k.GY}
		for _, a := range []impl.Point{g, s.anyPoint(k)} {
			for _, b := range wrongPoints(k, a) {
				allRefuse(t, "a wrong point", k, b, g)
			}
		}
	}
}

func TestPointBytesStandAlone(t *testing.T) {
	k := smallCurves()[0]
	for _, a := range append(pointsOf(k), impl.Point{X: -1}) {
		for _, short := range []bool{false, true} {
			answersStandAlone(t, fmt.Sprintf("PointBytes(%v, %v)", a, short), func() ([]byte, bool) { return impl.PointBytes(k, a, short) })
		}
	}
}

func TestPointReadStandsAlone(t *testing.T) {
	k := smallCurves()[0]
	texts := []string{"", "\x01", "\x05", "\x02\x00\x00", "\x04\x00\x00\x01\x00\x00\x18", "\x02\xff\xff\xff", "\x00\x00", "\x03\x00\x00\x01\x00"}
	for text := range readers(k) {
		texts = append(texts, text, text[:len(text)-1])
	}
	readStandsAlone(t, texts, func(b []byte) (impl.Point, bool) { return impl.PointRead(k, b) })
}

func TestCurvesEndSoon(t *testing.T) {
	k, flip := sidedCurve()
	g := impl.Point{X: k.GX, Y: k.GY}
	long, short := plainBytes(g, false), plainBytes(g, true)
	endsSoon(t, "2000 times each function", func() {
		for range 2000 {
			impl.CurveOk(k)
			impl.PointOk(k, g)
			impl.PointAdd(k, g, flip)
			impl.PointMul(k, 1<<40-1, g)
			impl.TwoMul(k, 1<<40-1, 1<<40-1, g)
			impl.PointBytes(k, g, true)
			impl.PointRead(k, long)
			impl.PointRead(k, short)
		}
	})
	endsSoon(t, "the far end of all numbers", func() {
		for _, n := range farOff() {
			impl.CurveOk(impl.Curve{P: n, A: n, B: n, N: n, GX: n, GY: n})
			impl.CurveOk(impl.Curve{P: 1048571, A: 1, B: 1, N: n, GX: 1, GY: 1})
			impl.PointMul(k, n, g)
			impl.TwoMul(k, n, n, g)
			impl.PointAdd(k, impl.Point{X: n, Y: n}, g)
		}
		impl.PointRead(k, make([]byte, 1<<24))
	})
}
