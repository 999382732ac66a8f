package tests

import (
	"slices"
	"testing"

	"loop.example/g00148/impl"
)

// wrongEds are no twisted curves, each for the one reason that it stands under. By 5 there are too few pairs for any L, so that none is wrong for P's lower limit alone.
func wrongEds() map[string][]impl.Ed {
	return map[string][]impl.Ed{
		"P's range":            {beyondEd},
		"P is no prime number": {{P: 69, D: 29, L: 7, BX: 18, BY: 34}, {P: 77, D: 33, L: 5, BX: 28, BY: 64}, {P: 85, D: 6, L: 5, BX: 5, BY: 41}, {P: 117, D: 19, L: 5, BX: 9, BY: 73}, {P: 125, D: 2, L: 5, BX: 25, BY: 1}, {P: 221, D: 6, L: 5, BX: 10, BY: 9}},
		"P by 8": {
			{P: 17, D: 6, L: 5, BX: 5, BY: 7}, {P: 41, D: 6, L: 11, BX: 1, BY: 37}, {P: 1048433, D: 54, L: 261977, BX: 150840, BY: 153019},
			{P: 19, D: 18, L: 5, BX: 2, BY: 1}, {P: 43, D: 7, L: 5, BX: 11, BY: 8}, {P: 59, D: 2, L: 7, BX: 4, BY: 21},
			{P: 31, D: 3, L: 5, BX: 2, BY: 15}, {P: 47, D: 10, L: 5, BX: 7, BY: 28},
		},
		"D's range":            {{P: 101, D: 113, L: 11, BX: 76, BY: 22}, {P: 101, D: -89, L: 11, BX: 76, BY: 22}, {P: 13, D: 19, L: 5, BX: 3, BY: 9}, {P: 13, D: -7, L: 5, BX: 3, BY: 9}},
		"D has a root":         {{P: 29, D: 28, L: 7, BX: 9, BY: 1}, {P: 37, D: 7, L: 5, BX: 8, BY: 22}, {P: 53, D: 44, L: 7, BX: 3, BY: 51}, {P: 101, D: 5, L: 7, BX: 6, BY: 62}},
		"B's range":            {{P: 101, D: 12, L: 11, BX: -25, BY: 22}, {P: 101, D: 12, L: 11, BX: 177, BY: 22}, {P: 101, D: 12, L: 11, BX: 76, BY: 123}, {P: 101, D: 12, L: 11, BX: 76, BY: -79}},
		"B is not of it":       {{P: 101, D: 2, L: 5, BX: 0, BY: 95}, {P: 101, D: 12, L: 5, BX: 0, BY: 95}, {P: 29, D: 2, L: 7, BX: 0, BY: 16}, {P: 1048573, D: 53, L: 73, BX: 0, BY: 119273}},
		"B is (0, 1)":          {{P: 101, D: 12, L: 11, BX: 0, BY: 1}, {P: 13, D: 6, L: 5, BX: 0, BY: 1}, {P: 1048573, D: 53, L: 261757, BX: 0, BY: 1}, {P: 13, D: 2, L: 2097143, BX: 0, BY: 1}},
		"L is no prime number": {{P: 13, D: 5, L: 6, BX: 4, BY: 3}, {P: 29, D: 3, L: 8, BX: 1, BY: 12}, {P: 53, D: 19, L: 15, BX: 3, BY: 44}, {P: 13, D: 6, L: 20, BX: 1, BY: 6}, {P: 101, D: 12, L: 121, BX: 76, BY: 22}, {P: 101, D: 12, L: 22, BX: 76, BY: 22}, {P: 101, D: 12, L: 11 * 190649, BX: 76, BY: 22}},
		"L's range":            {{P: 13, D: 5, L: 3, BX: 4, BY: 10}, {P: 29, D: 3, L: 3, BX: 13, BY: 23}, {P: 13, D: 2, L: 2, BX: 0, BY: 12}},
		"L-fold":               {{P: 101, D: 12, L: 5, BX: 76, BY: 22}, {P: 101, D: 12, L: 13, BX: 76, BY: 22}, {P: 101, D: 12, L: 2097143, BX: 76, BY: 22}, {P: 13, D: 6, L: 5, BX: 1, BY: 6}, {P: 13, D: 6, L: 5, BX: 3, BY: 4}, {P: 13, D: 6, L: 5, BX: 0, BY: 12}},
	}
}

func TestEdOkOfRightOnes(t *testing.T) {
	for _, k := range allEds() {
		if faults := edFaults(k); len(faults) > 0 || !impl.EdOk(k) {
			t.Errorf("EdOk(%+v) is false, or should be so: %v", k, faults)
		}
		if !impl.PairOk(k, one) || !impl.PairOk(k, impl.Pair{X: k.BX, Y: k.BY}) {
			t.Errorf("PairOk by %+v of (0, 1) or of B is false", k)
		}
	}
}

func TestEdOkForOneReasonOnly(t *testing.T) {
	for reason, list := range wrongEds() {
		for _, k := range list {
			if faults := edFaults(k); !slices.Equal(faults, []string{reason}) {
				t.Errorf("%+v is wrong for %v, not for %s alone", k, faults, reason)
			}
			if impl.EdOk(k) {
				t.Errorf("EdOk(%+v) is true: %s", k, reason)
			}
		}
	}
}

// edFields are its numbers, so that each can be made another one.
func edFields(k *impl.Ed) map[string]*int {
	return map[string]*int{"P": &k.P, "D": &k.D, "L": &k.L, "BX": &k.BX, "BY": &k.BY}
}

func TestEdOkByPMoreOrLess(t *testing.T) {
	for _, k := range allEds() {
		for name := range edFields(&k) {
			for _, shift := range []int{-2 * k.P, -k.P, k.P, 2 * k.P} {
				l := k
				*edFields(&l)[name] += shift
				if impl.EdOk(l) {
					t.Errorf("EdOk(%+v) is true, %s being too much or too little", l, name)
				}
			}
		}
	}
}

func TestEdOkAtTheEdgesOfD(t *testing.T) {
	// With D 0 the pairs are those of a hyperbola, and the fold of these is (0, 1).
	flat := []impl.Ed{{P: 101, L: 5, BX: 45, BY: 39}, {P: 29, L: 7, BX: 2, BY: 18}, {P: 1048573, L: 73, BX: 515785, BY: 635058}}
	for _, k := range flat {
		if faults := edFaults(k); !slices.Equal(faults, []string{"D's range", "D has a root"}) {
			t.Errorf("%+v is wrong for %v", k, faults)
		}
		for _, d := range []int{-k.P, 0, k.P} {
			k.D = d
			if impl.EdOk(k) {
				t.Errorf("EdOk(%+v) is true", k)
			}
		}
	}
	for _, k := range allEds() {
		right := k.D
		for _, d := range []int{-1, 0, 1, 2, 3, 4, 9, k.P - 2, k.P - 1, k.P, k.P + 1, k.P + 2} {
			k.D = d
			if want := len(edFaults(k)) == 0; impl.EdOk(k) != want {
				t.Errorf("EdOk(%+v) is %v; %d is right", k, !want, right)
			}
		}
	}
}

// orderOf is that of (BX, BY) by a k all whose other numbers but L are right, else 0.
func orderOf(k impl.Ed) int {
	inField := min(k.BX, k.BY) >= 0 && max(k.BX, k.BY) < k.P
	if !inField || !within(k.D, 2, k.P-1) || hasRoot(k.D, k.P) || !onTwist(k, k.BX, k.BY) {
		return 0
	}
	return len(edGroup(k).multiplesOf(impl.Pair{X: k.BX, Y: k.BY}))
}

func TestEdOkOfAllSmallOnes(t *testing.T) {
	right := 0
	for _, p := range []int{3, 5, 7, 11, 12, 13, 14, 15, 17, 21, 29, 37} {
		edge := p + 2
		for place := range edge * edge * edge {
			k := impl.Ed{P: p, D: place%edge - 1, BX: place/edge%edge - 1, BY: place/edge/edge - 1}
			order := 0
			if p == 13 || p == 29 || p == 37 {
				order = orderOf(k)
			}
			for _, l := range []int{-1, 0, 1, 2, 3, 4, 5, 6, 7, 8, 9, 10, 11, 13, 17} {
				k.L = l
				want := l == order && goodOrder(l)
				if want {
					right++
				}
				if impl.EdOk(k) != want {
					t.Fatalf("EdOk(%+v) is %v", k, !want)
				}
			}
		}
	}
	if right < 50 {
		t.Errorf("only %d right ones were looked at", right)
	}
}

func TestEdOkOfEachMultipleOfTheBase(t *testing.T) {
	for _, k := range smallEds() {
		for n, b := range edGroup(k).multiplesOf(impl.Pair{X: k.BX, Y: k.BY}) {
			l := k
			l.BX, l.BY = b.X, b.Y
			if impl.EdOk(l) != (n > 0) {
				t.Errorf("EdOk(%+v) is %v", l, n == 0)
			}
		}
		for _, b := range pairsOf(k) {
			l := k
			l.BX, l.BY = b.X, b.Y
			if want := orderOf(l) == k.L; impl.EdOk(l) != want {
				t.Errorf("EdOk(%+v) is %v", l, !want)
			}
		}
	}
}

func TestEdOkByPAsItIs(t *testing.T) {
	for _, p := range []int{-13, -5, -3, -1, 0, 1, 2, 3, 4, 5, 6, 7, 8, 9, 11, 12, 14, 17, 21, 45, 1048571, 1048575, 1048576, 1048577, 1048583, 1048589, 1048581, 2097143} {
		for _, k := range allEds() {
			k.P = p
			if impl.EdOk(k) {
				t.Errorf("EdOk(%+v) is true", k)
			}
		}
	}
	for _, name := range []string{"P", "D", "L", "BX", "BY"} {
		for _, n := range farOff() {
			for _, k := range []impl.Ed{smallEds()[0], topEd, {}} {
				*edFields(&k)[name] = n
				if impl.EdOk(k) {
					t.Errorf("EdOk(%+v) is true", k)
				}
			}
		}
	}
	if impl.EdOk(impl.Ed{}) {
		t.Error("EdOk of the zero value is true")
	}
}

func TestEdOkByL(t *testing.T) {
	for _, k := range allEds() {
		right := k.L
		for _, l := range []int{0, 1, 2, 3, 4, 5, 7, right - 1, right, right + 1, 2 * right, 4 * right, 8 * right, right * right, -right, 2097143, 2097152, 2097169, 1<<40 - 87} {
			k.L = l
			if impl.EdOk(k) != (l == right) {
				t.Errorf("EdOk(%+v) is %v", k, l != right)
			}
		}
	}
}

func TestPairOkIsJustOfThePairsOfIt(t *testing.T) {
	for _, k := range smallEds() {
		of := map[impl.Pair]bool{}
		for _, a := range pairsOf(k) {
			of[a] = true
		}
		if !of[one] || !of[impl.Pair{Y: k.P - 1}] {
			t.Errorf("(0, 1) or (0, -1) is not of %+v", k)
		}
		for x := -1; x <= k.P+1; x++ {
			for y := -1; y <= k.P+1; y++ {
				if a := (impl.Pair{X: x, Y: y}); impl.PairOk(k, a) != of[a] {
					t.Errorf("PairOk(%+v, %+v) is %v", k, a, !of[a])
				}
			}
		}
	}
}

func TestPairOkOfGreatOnes(t *testing.T) {
	s := turn(71)
	for _, k := range greatEds() {
		for range 20 {
			for _, a := range s.somePairs(k) {
				if !onTwist(k, a.X, a.Y) || !impl.PairOk(k, a) {
					t.Errorf("PairOk(%+v, %+v) is false", k, a)
				}
				for _, b := range wrongPairs(k, a) {
					if impl.PairOk(k, b) {
						t.Errorf("PairOk(%+v, %+v) is true", k, b)
					}
				}
			}
		}
	}
}

// wrongPairs are made of a pair of it.
func wrongPairs(k impl.Ed, a impl.Pair) []impl.Pair {
	list := []impl.Pair{
		{X: a.X + k.P, Y: a.Y}, {X: a.X - k.P, Y: a.Y}, {X: a.X, Y: a.Y + k.P}, {X: a.X, Y: a.Y - k.P}, {X: a.X - k.P, Y: a.Y - k.P},
		{X: -1, Y: a.Y}, {X: k.P, Y: a.Y}, {X: a.X, Y: -1}, {X: a.X, Y: k.P}, {X: k.P, Y: k.P}, {X: 0, Y: 0},
	}
	for _, b := range []impl.Pair{{X: (a.X + 1) % k.P, Y: a.Y}, {X: a.X, Y: (a.Y + 1) % k.P}, {X: a.Y, Y: a.X}, {X: 1, Y: 1}} {
		if !onTwist(k, b.X, b.Y) {
			list = append(list, b)
		}
	}
	for _, n := range farOff() {
		list = append(list, impl.Pair{X: n, Y: a.Y}, impl.Pair{X: a.X, Y: n}, impl.Pair{X: n, Y: n})
	}
	return list
}
