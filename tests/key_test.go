package tests

import (
	"fmt"
	"math"
	"math/big"
	"slices"
	"testing"

	"loop.example/g00148/impl"
)

func saysKey(t *testing.T, what string, key impl.Key, want bool) {
	t.Helper()
	if got := impl.KeyOk(key); got != want {
		t.Errorf("%s: KeyOk(%+v): %v", what, key, got)
	}
	if got := impl.SameKey(key, key); got != want {
		t.Errorf("%s: SameKey of %+v with itself: %v", what, key, got)
	}
	for alg := -1; alg <= 6; alg++ {
		if got := impl.SigSize(key, alg); !want && got != 0 {
			t.Errorf("%s: SigSize(%+v, %d): %d", what, key, alg, got)
		}
	}
}

func rsaKey(n []int, e int) impl.Key {
	return impl.Key{Kind: impl.KeyRsa, N: n, E: e}
}

// oddOf is the least and the greatest odd number of so many bits.
func oddOf(bits int) [][]int {
	top := new(big.Int).Lsh(big.NewInt(1), uint(bits-1))
	least := new(big.Int).Add(top, big.NewInt(1))
	greatest := new(big.Int).Add(top, new(big.Int).Sub(top, big.NewInt(1)))
	return [][]int{digitsOf(least), digitsOf(greatest)}
}

func TestKeyOkByTheBitsOfN(t *testing.T) {
	for bits := 2; bits <= 1024; bits++ {
		for _, n := range oddOf(bits) {
			saysKey(t, fmt.Sprintf("%d bits", bits), rsaKey(n, 3), within(bits, 128, 512))
		}
	}
	saysKey(t, "N 0", rsaKey(nil, 3), false)
	saysKey(t, "N 1", rsaKey([]int{1}, 3), false)
}

func TestKeyOkOfAnEvenN(t *testing.T) {
	for bits := 128; bits <= 512; bits += 3 {
		for _, n := range oddOf(bits) {
			n[0]--
			saysKey(t, "even", rsaKey(n, 65537), false)
			n[0]++
			saysKey(t, "odd", rsaKey(n, 65537), true)
		}
	}
}

func TestKeyOkOfAnNThatIsNoNatural(t *testing.T) {
	for _, size := range []int{8, 9, 31, 32} {
		for at := range size {
			for _, digit := range []int{-1, -65535, 65536, 65537, 1 << 32, math.MaxInt, math.MinInt, math.MinInt + 1} {
				n := many(65535, size)
				n[at] = digit
				saysKey(t, fmt.Sprintf("%d at %d", digit, at), rsaKey(n, 3), false)
			}
		}
		for noughts := 1; noughts < 40; noughts++ {
			saysKey(t, "noughts ahead", rsaKey(append(many(65535, size), many(0, noughts)...), 3), false)
		}
	}
	for _, n := range append(wrongNaturals(), many(1, 33), many(1, 64), many(1, 100000)) {
		saysKey(t, "no natural", rsaKey(n, 3), false)
	}
}

func TestKeyOkByE(t *testing.T) {
	list := slices.Concat(farOff(), []int{-65537, -3, 65538, 65539, 65541, 1<<16 + 65537, 1<<32 + 3, 1<<32 + 65537})
	for e := range 300 {
		list = append(list, e, 65400+e)
	}
	for _, e := range list {
		for _, n := range append(oddOf(128), oddOf(512)...) {
			saysKey(t, "E", rsaKey(n, e), within(e, 3, 65537) && e%2 == 1)
		}
	}
}

func TestKeyOkByQ(t *testing.T) {
	outside := 0
	for _, k := range smallCurves() {
		well := map[impl.Point]bool{}
		for _, q := range pointsOf(k)[1:] {
			well[q] = planeFold(k, k.N, q) == far
			if !well[q] {
				outside++
			}
		}
		for x := -1; x <= k.P; x++ {
			for y := -1; y <= k.P; y++ {
				q := impl.Point{X: x, Y: y}
				saysKey(t, "Q", impl.Key{Kind: impl.KeyCurve, Curve: k, Q: q}, well[q])
			}
		}
		for _, q := range []impl.Point{far, {X: k.GX, Y: k.GY, Far: true}, {X: 1, Far: true}, {Y: 1, Far: true}} {
			saysKey(t, "far", impl.Key{Kind: impl.KeyCurve, Curve: k, Q: q}, false)
		}
	}
	if outside < 100 {
		t.Errorf("only %d points whose N-fold is not far", outside)
	}
}

func TestKeyOkOfGreatCurves(t *testing.T) {
	s := turn(151)
	for _, k := range greatCurves() {
		for range 20 {
			q := s.anyPoint(k)
			saysKey(t, "Q by chance", impl.Key{Kind: impl.KeyCurve, Curve: k, Q: q}, planeFold(k, k.N, q) == far)
			q.Y = (q.Y + 1) % k.P
			saysKey(t, "Q beside", impl.Key{Kind: impl.KeyCurve, Curve: k, Q: q}, onPlane(k, q.X, q.Y))
		}
		for _, n := range farOff() {
			saysKey(t, "Q far off", impl.Key{Kind: impl.KeyCurve, Curve: k, Q: impl.Point{X: n, Y: k.GY}}, false)
			saysKey(t, "Q far off", impl.Key{Kind: impl.KeyCurve, Curve: k, Q: impl.Point{X: k.GX, Y: n}}, false)
		}
	}
	sided, level := sidedCurve()
	saysKey(t, "Y 0", impl.Key{Kind: impl.KeyCurve, Curve: sided, Q: level}, false)
}

func TestKeyOkOfWrongCurves(t *testing.T) {
	for what, list := range wrongCurves() {
		for _, k := range list {
			saysKey(t, what, impl.Key{Kind: impl.KeyCurve, Curve: k, Q: impl.Point{X: k.GX, Y: k.GY}}, false)
		}
	}
	saysKey(t, "no curve", impl.Key{Kind: impl.KeyCurve}, false)
	saysKey(t, "beyond", impl.Key{Kind: impl.KeyCurve, Curve: beyondCurve, Q: impl.Point{X: 0, Y: 4}}, false)
}

func TestKeyOkByA(t *testing.T) {
	for _, k := range smallEds() {
		for x := -1; x <= k.P; x++ {
			for y := -1; y <= k.P; y++ {
				well := within(x, 0, k.P-1) && within(y, 0, k.P-1) && onTwist(k, x, y)
				saysKey(t, "A", impl.Key{Kind: impl.KeyEd, Ed: k, A: impl.Pair{X: x, Y: y}}, well)
			}
		}
	}
	s := turn(152)
	for _, k := range greatEds() {
		for _, a := range s.somePairs(k) {
			saysKey(t, "A", impl.Key{Kind: impl.KeyEd, Ed: k, A: a}, true)
		}
		for _, n := range farOff() {
			saysKey(t, "A far off", impl.Key{Kind: impl.KeyEd, Ed: k, A: impl.Pair{X: n, Y: k.BY}}, false)
			saysKey(t, "A far off", impl.Key{Kind: impl.KeyEd, Ed: k, A: impl.Pair{X: k.BX, Y: n}}, false)
		}
	}
}

func TestKeyOkOfWrongEds(t *testing.T) {
	for what, list := range wrongEds() {
		for _, k := range list {
			saysKey(t, what, impl.Key{Kind: impl.KeyEd, Ed: k, A: impl.Pair{X: k.BX, Y: k.BY}}, false)
			saysKey(t, what, impl.Key{Kind: impl.KeyEd, Ed: k, A: one}, false)
		}
	}
	saysKey(t, "no twisted curve", impl.Key{Kind: impl.KeyEd}, false)
}

// keyOfEach is a right key of each kind, for two of each.
func keyOfEach() []impl.Key {
	s := turn(153)
	list := []impl.Key{s.rsaOf(128, 3).key(), s.rsaOf(512, 65537).key()}
	for _, k := range []impl.Curve{topCurve, smallCurves()[0]} {
		list = append(list, impl.Key{Kind: impl.KeyCurve, Curve: k, Q: impl.Point{X: k.GX, Y: k.GY}})
	}
	for _, k := range []impl.Ed{topEd, smallEds()[0]} {
		list = append(list, impl.Key{Kind: impl.KeyEd, Ed: k, A: one})
	}
	return list
}

// setFields put something into one field, under the kind that names it.
func setFields() map[int]map[string]func(k *impl.Key) {
	return map[int]map[string]func(k *impl.Key){
		impl.KeyRsa: {
			"N 0 with a nought": func(k *impl.Key) { k.N = []int{0} },
			"N 1":               func(k *impl.Key) { k.N = []int{1} },
			"a right N":         func(k *impl.Key) { k.N = many(65535, 9) },
			"E 1":               func(k *impl.Key) { k.E = 1 },
			"E -1":              func(k *impl.Key) { k.E = -1 },
			"E 3":               func(k *impl.Key) { k.E = 3 },
		},
		impl.KeyCurve: {
			"P":             func(k *impl.Key) { k.Curve.P = 7 },
			"A":             func(k *impl.Key) { k.Curve.A = -1 },
			"B":             func(k *impl.Key) { k.Curve.B = 1 },
			"the curve's N": func(k *impl.Key) { k.Curve.N = 1 },
			"GX":            func(k *impl.Key) { k.Curve.GX = 1 },
			"GY":            func(k *impl.Key) { k.Curve.GY = 1 },
			"a right curve": func(k *impl.Key) { k.Curve = topCurve },
			"Q's X":         func(k *impl.Key) { k.Q.X = 1 },
			"Q's Y":         func(k *impl.Key) { k.Q.Y = -1 },
			"Q is far":      func(k *impl.Key) { k.Q.Far = true },
		},
		impl.KeyEd: {
			"Ed's P":     func(k *impl.Key) { k.Ed.P = 13 },
			"D":          func(k *impl.Key) { k.Ed.D = 1 },
			"L":          func(k *impl.Key) { k.Ed.L = -1 },
			"BX":         func(k *impl.Key) { k.Ed.BX = 1 },
			"BY":         func(k *impl.Key) { k.Ed.BY = 1 },
			"a right Ed": func(k *impl.Key) { k.Ed = topEd },
			"A's X":      func(k *impl.Key) { k.A.X = 1 },
			"A's Y":      func(k *impl.Key) { k.A.Y = 1 },
		},
	}
}

// overfullKeys are a key with one field set that its kind does not name.
func overfullKeys(key impl.Key) map[string]impl.Key {
	overfull := map[string]impl.Key{}
	for kind, sets := range setFields() {
		for what, set := range sets {
			if kind != key.Kind {
				other := key
				set(&other)
				overfull[what] = other
			}
		}
	}
	return overfull
}

func TestKeyOkWithAFieldThatTheKindDoesNotName(t *testing.T) {
	for _, key := range keyOfEach() {
		saysKey(t, "as it is", key, true)
		for what, overfull := range overfullKeys(key) {
			saysKey(t, what, overfull, false)
		}
	}
}

// An empty list is the same as nil, with or without room behind it.
func TestKeyOkWithAnEmptyN(t *testing.T) {
	for _, key := range keyOfEach()[2:] {
		for _, n := range [][]int{nil, {}, make([]int, 0, 5), many(7, 5)[:0]} {
			key.N = n
			saysKey(t, "empty N", key, true)
		}
	}
}

func TestKeyOkByKind(t *testing.T) {
	for _, key := range keyOfEach() {
		right := key.Kind
		for _, kind := range append(farOff(), -3, -2, 0, 1, 2, 3, 4, 5, 256+right, 1<<32+right) {
			key.Kind = kind
			saysKey(t, "kind", key, kind == right)
		}
	}
	saysKey(t, "nothing", impl.Key{}, false)
}

// spoiltKeys are near a right one, and not KeyOk; what signs by it would sign by some of them.
func spoiltKeys(key impl.Key) map[string]impl.Key {
	spoilt := overfullKeys(key)
	other := key
	other.Kind = 0
	spoilt["kind 0"] = other
	other.Kind = 4
	spoilt["kind 4"] = other
	if key.Kind == impl.KeyRsa {
		other = key
		other.N = append(slices.Clone(key.N), 0)
		spoilt["a nought ahead"] = other
	}
	return spoilt
}

func TestSigSize(t *testing.T) {
	for _, by := range signers() {
		for _, alg := range allAlgs() {
			want := 0
			switch {
			case by.key.Kind == impl.KeyRsa && within(alg, impl.AlgRsa, impl.AlgPss):
				want = sizeOf(bigOf(by.key.N).BitLen())
			case by.key.Kind == impl.KeyCurve && alg == impl.AlgCurve, by.key.Kind == impl.KeyEd && alg == impl.AlgEd:
				want = 6
			}
			if got := impl.SigSize(by.key, alg); got != want {
				t.Errorf("%s: SigSize by %d: got %d, want %d", by.name, alg, got, want)
			}
			for what, wrong := range spoiltKeys(by.key) {
				if got := impl.SigSize(wrong, alg); got != 0 {
					t.Errorf("%s, %s: SigSize by %d: %d", by.name, what, alg, got)
				}
			}
		}
		if got := impl.SigSize(by.key, by.alg); got != len(by.sign(nil)) {
			t.Errorf("%s: SigSize %d is not the signature's", by.name, got)
		}
	}
}

func TestSigSizeOfEachN(t *testing.T) {
	for bits := 128; bits <= 512; bits++ {
		for _, n := range oddOf(bits) {
			for _, alg := range []int{impl.AlgRsa, impl.AlgPss} {
				if got := impl.SigSize(rsaKey(n, 3), alg); got != sizeOf(bits) {
					t.Errorf("%d bits: SigSize %d", bits, got)
				}
			}
		}
	}
}

// keyFamilies are right keys, those of a family differing in just one field.
func keyFamilies() map[string][]impl.Key {
	k, e := smallCurves()[0], smallEds()[0]
	base, first := impl.Point{X: k.GX, Y: k.GY}, impl.Pair{X: e.BX, Y: e.BY}
	rebased, twice := k, planeSum(k, base, base)
	rebased.GX, rebased.GY = twice.X, twice.Y
	turnedOver, doubled := e, twistSum(e, first, first)
	turnedOver.BX, turnedOver.BY = doubled.X, doubled.Y
	return map[string][]impl.Key{
		"N":     {rsaKey(many(65535, 9), 3), rsaKey(append([]int{65533}, many(65535, 8)...), 3), rsaKey(append(many(65535, 8), 65534), 3), rsaKey(many(65535, 10), 3), rsaKey(many(65535, 8), 3)},
		"E":     {rsaKey(many(65535, 9), 3), rsaKey(many(65535, 9), 5), rsaKey(many(65535, 9), 65537)},
		"Curve": {{Kind: impl.KeyCurve, Curve: k, Q: base}, {Kind: impl.KeyCurve, Curve: rebased, Q: base}},
		"Q":     {{Kind: impl.KeyCurve, Curve: k, Q: base}, {Kind: impl.KeyCurve, Curve: k, Q: twice}, {Kind: impl.KeyCurve, Curve: k, Q: otherSide(k, base)}},
		"Ed":    {{Kind: impl.KeyEd, Ed: e, A: first}, {Kind: impl.KeyEd, Ed: turnedOver, A: first}},
		"A":     {{Kind: impl.KeyEd, Ed: e, A: first}, {Kind: impl.KeyEd, Ed: e, A: doubled}, {Kind: impl.KeyEd, Ed: e, A: otherPair(e, first)}},
		"Kind":  keyOfEach(),
	}
}

func TestSameKey(t *testing.T) {
	for what, family := range keyFamilies() {
		for i, a := range family {
			for j, b := range family {
				b.N = slices.Clone(b.N)
				if got := impl.SameKey(a, b); got != (i == j) {
					t.Errorf("%s: SameKey of %d and %d: %v", what, i, j, got)
				}
			}
			saysKey(t, what, a, true)
		}
	}
}

func TestSameKeyOfKeysThatAreNotOk(t *testing.T) {
	for _, key := range keyOfEach() {
		for what, wrong := range spoiltKeys(key) {
			for _, pair := range [][]impl.Key{{key, wrong}, {wrong, key}, {wrong, wrong}} {
				if impl.SameKey(pair[0], pair[1]) {
					t.Errorf("%s: SameKey of %+v and %+v", what, pair[0], pair[1])
				}
			}
		}
	}
}

func TestSameKeyWithNilAndAnEmptyN(t *testing.T) {
	for _, key := range keyOfEach()[2:] {
		other := key
		other.N = make([]int, 0, 3)
		if !impl.SameKey(key, other) || !impl.SameKey(other, key) {
			t.Errorf("an empty N and nil are not the same: %+v", key)
		}
	}
}
