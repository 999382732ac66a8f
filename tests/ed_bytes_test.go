package tests

import (
	"bytes"
	"fmt"
	"testing"

	"loop.example/g00148/impl"
)

// pairBytes are a pair's bytes, reckoned apart from the program. Of a Y that is too great they are what would be read as it.
func pairBytes(x int, y int) []byte {
	return []byte{byte(y % 256), byte(y / 256 % 256), byte(y/65536%128 + x%2*128)}
}

// pairComesBack looks at a pair's bytes, there and back.
func pairComesBack(t *testing.T, k impl.Ed, a impl.Pair) {
	t.Helper()
	b, ok := impl.EdBytes(k, a)
	if want := pairBytes(a.X, a.Y); !ok || !bytes.Equal(b, want) {
		t.Errorf("EdBytes(%+v, %v): got %v %v, want %v", k, a, b, ok, want)
	}
	c, ok := impl.EdRead(k, b)
	sameElement(t, fmt.Sprintf("EdRead of EdBytes(%+v, %v)", k, a), c, ok, a)
}

func TestPairsComeBackFromTheirBytes(t *testing.T) {
	for _, k := range smallEds() {
		for _, a := range pairsOf(k) {
			pairComesBack(t, k, a)
		}
	}
	s := turn(81)
	for _, k := range greatEds() {
		for range 100 {
			for _, a := range s.somePairs(k) {
				pairComesBack(t, k, a)
			}
		}
	}
}

func TestEdBytesByHand(t *testing.T) {
	k := smallEds()[0]
	cases := []struct {
		k    impl.Ed
		a    impl.Pair
		want string
	}{
		{k, one, "\x01\x00\x00"},
		{k, impl.Pair{Y: 100}, "\x64\x00\x00"},
		{k, impl.Pair{X: 76, Y: 22}, "\x16\x00\x00"},
		{k, impl.Pair{X: 25, Y: 22}, "\x16\x00\x80"},
		{k, impl.Pair{X: 10}, "\x00\x00\x00"},
		{k, impl.Pair{X: 91}, "\x00\x00\x80"},
		{topEd, one, "\x01\x00\x00"},
		{topEd, impl.Pair{Y: 1048572}, "\xfc\xff\x0f"},
		{topEd, impl.Pair{X: 437622, Y: 265697}, "\xe1\x0d\x04"},
		{topEd, impl.Pair{X: 610951, Y: 265697}, "\xe1\x0d\x84"},
	}
	for _, c := range cases {
		got, ok := impl.EdBytes(c.k, c.a)
		if !ok || string(got) != c.want {
			t.Errorf("EdBytes(%v): got %v %v, want %q", c.a, got, ok, c.want)
		}
		back, ok := impl.EdRead(c.k, []byte(c.want))
		sameElement(t, "EdRead", back, ok, c.a)
	}
}

// pairReaders are the bytes of all pairs of a small one, with the pairs.
func pairReaders(k impl.Ed) map[string]impl.Pair {
	all := map[string]impl.Pair{}
	for _, a := range pairsOf(k) {
		all[string(pairBytes(a.X, a.Y))] = a
	}
	return all
}

// readsJustPair looks that b is read as the pair that has these bytes, and written again so, or refused.
func readsJustPair(t *testing.T, k impl.Ed, all map[string]impl.Pair, b []byte) {
	t.Helper()
	got, ok := impl.EdRead(k, b)
	want, of := all[string(b)]
	if !of {
		refusedElement(t, fmt.Sprintf("EdRead(%+v, %v), which no pair has", k, b), got, ok)
		return
	}
	sameElement(t, fmt.Sprintf("EdRead(%+v, %v)", k, b), got, ok, want)
	again, ok := impl.EdBytes(k, got)
	if !ok || !bytes.Equal(again, b) {
		t.Errorf("%v was read by %+v, and written as %v %v", b, k, again, ok)
	}
}

func TestEdReadOfEachLength(t *testing.T) {
	for _, k := range smallEds() {
		all := pairReaders(k)
		readsJustPair(t, k, all, nil)
		for size := range 9 {
			for _, fill := range []byte{0, 1, 100, 127, 128, 255} {
				readsJustPair(t, k, all, bytes.Repeat([]byte{fill}, size))
			}
		}
		for text := range all {
			for size := range len(text) {
				readsJustPair(t, k, all, []byte(text[:size]))
				readsJustPair(t, k, all, []byte(text[size+1:]))
			}
			for _, more := range []string{"\x00", "\x01", "\x80", "\x00\x00", "\x00\x00\x00"} {
				readsJustPair(t, k, all, []byte(text+more))
				readsJustPair(t, k, all, []byte(more+text))
			}
		}
	}
}

func TestEdReadOfAllThreeBytes(t *testing.T) {
	for _, k := range smallEds() {
		all := pairReaders(k)
		for low := range 256 {
			for _, middle := range []byte{0, 1, 128, 255} {
				for bit := range 8 {
					readsJustPair(t, k, all, []byte{byte(low), middle, 1 << bit})
					readsJustPair(t, k, all, []byte{byte(low), middle, 128 | 1<<bit})
				}
				for _, high := range []byte{0, 127, 255, 254} {
					readsJustPair(t, k, all, []byte{byte(low), middle, high})
				}
			}
		}
	}
}

func TestEdReadWhereXWouldBe0(t *testing.T) {
	for _, k := range allEds() {
		for _, y := range []int{1, k.P - 1} {
			got, ok := impl.EdRead(k, pairBytes(0, y))
			sameElement(t, "EdRead of a pair with X 0", got, ok, impl.Pair{Y: y})
			got, ok = impl.EdRead(k, pairBytes(1, y))
			refusedElement(t, "EdRead of a pair with an odd X 0", got, ok)
		}
	}
}

func TestEdReadOfGreatOnes(t *testing.T) {
	s := turn(82)
	none := 0
	for _, k := range greatEds() {
		for range 100 {
			for _, a := range s.somePairs(k) {
				for times := 1; a.Y+times*k.P < 1<<23; times++ {
					got, ok := impl.EdRead(k, pairBytes(a.X, a.Y+times*k.P))
					refusedElement(t, "EdRead of a Y that is P or more", got, ok)
				}
			}
			y := s.below(k.P)
			if twistRoot(k, y) >= 0 {
				continue
			}
			none++
			for x := range 2 {
				got, ok := impl.EdRead(k, pairBytes(x, y))
				refusedElement(t, "EdRead of a Y that no pair has", got, ok)
			}
		}
		for _, y := range []int{k.P, k.P + 1, 2*k.P - 1, 2*k.P + 1, 1 << 20, 1<<20 + 1, 1 << 21, 1<<22 + 1, 1<<23 - 1} {
			for x := range 2 {
				got, ok := impl.EdRead(k, pairBytes(x, y))
				refusedElement(t, "EdRead of a Y that is P or more", got, ok)
			}
		}
	}
	if none < 100 {
		t.Errorf("only %d Ys had no pair", none)
	}
}
