package tests

import (
	"bytes"
	"testing"

	"loop.example/g00148/impl"
)

// plainBytes are a point's bytes, reckoned apart from the program.
func plainBytes(a impl.Point, short bool) []byte {
	if a.Far {
		return []byte{0}
	}
	b := []byte{4, byte(a.X / 65536), byte(a.X / 256 % 256), byte(a.X % 256), byte(a.Y / 65536), byte(a.Y / 256 % 256), byte(a.Y % 256)}
	if short {
		b[0] = byte(2 + a.Y%2)
		return b[:4]
	}
	return b
}

// comeBack looks at both forms of a point, there and back.
func comeBack(t *testing.T, k impl.Curve, a impl.Point) {
	t.Helper()
	for _, short := range []bool{false, true} {
		b, ok := impl.PointBytes(k, a, short)
		if want := plainBytes(a, short); !ok || !bytes.Equal(b, want) {
			t.Errorf("PointBytes(%+v, %v, %v): got %v %v, want %v", k, a, short, b, ok, want)
		}
		c, ok := impl.PointRead(k, b)
		sameElement(t, "PointRead of PointBytes", c, ok, a)
	}
}

func TestPointsComeBackFromTheirBytes(t *testing.T) {
	for _, k := range smallCurves() {
		for _, a := range pointsOf(k) {
			comeBack(t, k, a)
		}
	}
	s := turn(51)
	for _, k := range greatCurves() {
		comeBack(t, k, far)
		comeBack(t, k, impl.Point{X: k.GX, Y: k.GY})
		for range 500 {
			a := s.anyPoint(k)
			comeBack(t, k, a)
			comeBack(t, k, otherSide(k, a))
		}
	}
	sided, flip := sidedCurve()
	comeBack(t, sided, flip)
}

func TestPointBytesByHand(t *testing.T) {
	k := smallCurves()[0]
	cases := []struct {
		k     impl.Curve
		a     impl.Point
		short bool
		want  string
	}{
		{k, far, false, "\x00"},
		{k, far, true, "\x00"},
		{k, impl.Point{X: 1, Y: 23}, false, "\x04\x00\x00\x01\x00\x00\x17"},
		{k, impl.Point{X: 1, Y: 23}, true, "\x03\x00\x00\x01"},
		{k, impl.Point{X: 1, Y: 80}, false, "\x04\x00\x00\x01\x00\x00\x50"},
		{k, impl.Point{X: 1, Y: 80}, true, "\x02\x00\x00\x01"},
		{topCurve, impl.Point{X: 0, Y: 293964}, false, "\x04\x00\x00\x00\x04\x7c\x4c"},
		{topCurve, impl.Point{X: 0, Y: 293964}, true, "\x02\x00\x00\x00"},
	}
	for _, c := range cases {
		got, ok := impl.PointBytes(c.k, c.a, c.short)
		if !ok || string(got) != c.want {
			t.Errorf("PointBytes(%v, %v): got %v %v, want %q", c.a, c.short, got, ok, c.want)
		}
		back, ok := impl.PointRead(c.k, []byte(c.want))
		sameElement(t, "PointRead", back, ok, c.a)
	}
}

// readers are the bytes of all points of a small curve, with the points.
func readers(k impl.Curve) map[string]impl.Point {
	all := map[string]impl.Point{}
	for _, a := range pointsOf(k) {
		all[string(plainBytes(a, false))] = a
		all[string(plainBytes(a, true))] = a
	}
	return all
}

// readsJust looks that b is read as the point that has these bytes, and written again so, or refused.
func readsJust(t *testing.T, k impl.Curve, all map[string]impl.Point, b []byte) {
	t.Helper()
	got, ok := impl.PointRead(k, b)
	want, of := all[string(b)]
	if !of {
		refusedElement(t, "PointRead of bytes that no point has", got, ok)
		if ok {
			t.Errorf("these are %v, by %+v", b, k)
		}
		return
	}
	sameElement(t, "PointRead", got, ok, want)
	again, ok := impl.PointBytes(k, got, len(b) == 4)
	if !ok || !bytes.Equal(again, b) {
		t.Errorf("%v was read by %+v, and written as %v %v", b, k, again, ok)
	}
}

func TestPointReadOfFewBytes(t *testing.T) {
	for _, k := range smallCurves() {
		all := readers(k)
		readsJust(t, k, all, nil)
		readsJust(t, k, all, []byte{})
		for first := range 256 {
			readsJust(t, k, all, []byte{byte(first)})
		}
		for first := range 7 {
			for size := 1; size <= 9; size++ {
				for _, fill := range []byte{0, 1, 255} {
					b := bytes.Repeat([]byte{fill}, size)
					b[0] = byte(first)
					readsJust(t, k, all, b)
				}
			}
		}
	}
}

func TestPointReadOfAllShortForms(t *testing.T) {
	for _, k := range smallCurves() {
		all := readers(k)
		for first := range 7 {
			for low := range 256 {
				for _, high := range [][2]byte{{0, 0}, {0, 1}, {1, 0}, {255, 255}} {
					readsJust(t, k, all, []byte{byte(first), high[0], high[1], byte(low)})
				}
			}
		}
	}
}

func TestPointReadOfAllLongForms(t *testing.T) {
	for _, k := range smallCurves() {
		all := readers(k)
		for x := range k.P + 3 {
			for y := range k.P + 3 {
				b := []byte{4, 0, 0, byte(x), 0, 0, byte(y)}
				readsJust(t, k, all, b)
				for place := range b {
					c := bytes.Clone(b)
					c[place] ^= byte(1 + (x+y+place)%3)
					readsJust(t, k, all, c)
				}
			}
		}
	}
}

func TestPointReadOfACutOrLongerForm(t *testing.T) {
	for _, k := range smallCurves()[1:14] {
		all := readers(k)
		for text := range all {
			for size := range len(text) {
				readsJust(t, k, all, []byte(text[:size]))
			}
			for _, more := range []string{"\x00", "\x01", "\x00\x00\x00", "\x00\x00\x00\x00"} {
				readsJust(t, k, all, []byte(text+more))
				readsJust(t, k, all, []byte(more+text))
			}
		}
	}
}

func TestPointReadWhereYWouldBe0(t *testing.T) {
	curves := smallCurves()
	sided, flip := sidedCurve()
	met := 0
	for _, k := range append(curves, sided) {
		points := []impl.Point{flip}
		if k != sided {
			points = pointsOf(k)
		}
		for _, a := range points {
			if a.Far || a.Y != 0 {
				continue
			}
			met++
			b := plainBytes(a, true)
			got, ok := impl.PointRead(k, b)
			sameElement(t, "PointRead of a short form with Y 0", got, ok, a)
			b[0] = 3
			got, ok = impl.PointRead(k, b)
			refusedElement(t, "PointRead of a short form with an odd Y 0", got, ok)
		}
	}
	if met < 6 {
		t.Errorf("only %d points have Y 0", met)
	}
}

func TestPointReadOfGreatOnes(t *testing.T) {
	s := turn(52)
	none := 0
	for _, k := range greatCurves() {
		for range 300 {
			a := s.anyPoint(k)
			for _, wrong := range []impl.Point{{X: a.X + k.P, Y: a.Y}, {X: a.X, Y: a.Y + k.P}, {X: a.X + k.P, Y: a.Y + k.P}, {X: a.X + 15*k.P, Y: a.Y}} {
				got, ok := impl.PointRead(k, plainBytes(wrong, false))
				refusedElement(t, "PointRead of an X or a Y that is P or more", got, ok)
				if wrong.X >= k.P {
					got, ok = impl.PointRead(k, plainBytes(wrong, true))
					refusedElement(t, "PointRead of a short X that is P or more", got, ok)
				}
			}
			x := s.below(k.P)
			if planeRoot(k, x) >= 0 {
				continue
			}
			none++
			for _, first := range []int{2, 3} {
				got, ok := impl.PointRead(k, plainBytes(impl.Point{X: x, Y: first}, true))
				refusedElement(t, "PointRead of an X that no point has", got, ok)
			}
		}
		for _, x := range []int{k.P, k.P + 1, 1 << 20, 1<<24 - 1} {
			for _, y := range []int{0, 1, k.P, 1<<24 - 1} {
				for _, short := range []bool{false, true} {
					got, ok := impl.PointRead(k, plainBytes(impl.Point{X: x, Y: y}, short))
					refusedElement(t, "PointRead of an X that is P or more", got, ok)
				}
			}
		}
	}
	if none < 100 {
		t.Errorf("only %d Xs had no point", none)
	}
}
