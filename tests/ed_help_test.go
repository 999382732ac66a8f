package tests

import (
	"fmt"
	"math/big"

	"loop.example/g00148/impl"
)

var one = impl.Pair{Y: 1}

// nowhere is what a sum is where something would be divided by 0.
var nowhere = impl.Pair{X: -1, Y: -1}

// The greatest P that there is and the next one, each with four times as many pairs as its L; and one beyond MaxPrime.
var (
	topEd    = impl.Ed{P: 1048573, D: 53, L: 261757, BX: 437622, BY: 265697}
	nextEd   = impl.Ed{P: 1048549, D: 18, L: 262147, BX: 192356, BY: 803180}
	beyondEd = impl.Ed{P: 1048589, D: 38, L: 262153, BX: 86932, BY: 534512}
)

// greatEds are those with P as great as can be, and with 4, 8, 40, 68 and 10176 times as many pairs as L.
func greatEds() []impl.Ed {
	return []impl.Ed{
		topEd, nextEd,
		{P: 1048573, D: 56, L: 131071, BX: 545017, BY: 924791},
		{P: 1048573, D: 22, L: 26227, BX: 871331, BY: 712256},
		{P: 1048573, D: 13, L: 15413, BX: 222895, BY: 245225},
		{P: 1048573, D: 2, L: 103, BX: 173754, BY: 365191},
	}
}

// smallEds are some with few pairs: 4, 8 or 12 times as many as L, some with pairs at X 1 and some without.
func smallEds() []impl.Ed {
	return []impl.Ed{
		{P: 101, D: 12, L: 11, BX: 76, BY: 22},
		{P: 13, D: 6, L: 5, BX: 3, BY: 9},
		{P: 29, D: 2, L: 7, BX: 2, BY: 22},
		{P: 29, D: 14, L: 5, BX: 8, BY: 26},
		{P: 29, D: 27, L: 5, BX: 2, BY: 23},
		{P: 37, D: 2, L: 5, BX: 8, BY: 10},
		{P: 37, D: 5, L: 7, BX: 3, BY: 5},
		{P: 37, D: 14, L: 11, BX: 5, BY: 22},
		{P: 53, D: 3, L: 7, BX: 4, BY: 43},
		{P: 53, D: 19, L: 5, BX: 6, BY: 11},
		{P: 53, D: 26, L: 17, BX: 4, BY: 46},
		{P: 53, D: 51, L: 5, BX: 9, BY: 43},
		{P: 61, D: 7, L: 17, BX: 2, BY: 44},
		{P: 61, D: 28, L: 19, BX: 8, BY: 49},
	}
}

func allEds() []impl.Ed {
	return append(smallEds(), greatEds()...)
}

// bigQuotient is reckoned apart from the program; false where there is none.
func bigQuotient(up int, down int, p int) (int, bool) {
	inverse := new(big.Int).ModInverse(big.NewInt(int64(bigRest(down, p))), big.NewInt(int64(p)))
	if inverse == nil {
		return 0, false
	}
	return bigRest(bigRest(up, p)*int(inverse.Int64()), p), true
}

// twistSum is reckoned apart from the program. P is below 2^21, and need not be a prime number.
func twistSum(k impl.Ed, a impl.Pair, b impl.Pair) impl.Pair {
	if a == nowhere || b == nowhere {
		return nowhere
	}
	m := bigRest(bigRest(k.D*a.X, k.P)*b.X, k.P)
	m = bigRest(bigRest(m*a.Y, k.P)*b.Y, k.P)
	x, okX := bigQuotient(a.X*b.Y+a.Y*b.X, 1+m, k.P)
	y, okY := bigQuotient(a.Y*b.Y+a.X*b.X, 1-m, k.P)
	if !okX || !okY {
		return nowhere
	}
	return impl.Pair{X: x, Y: y}
}

// onTwist wants x and y in 0 .. P - 1 and P below 2^21.
func onTwist(k impl.Ed, x int, y int) bool {
	xx, yy := bigRest(x*x, k.P), bigRest(y*y, k.P)
	return bigRest(yy-xx-1-bigRest(k.D*xx, k.P)*yy, k.P) == 0
}

// twistRoot is an X of a pair at y, or -1, for a right k.
func twistRoot(k impl.Ed, y int) int {
	square, _ := bigQuotient(y*y-1, 1+bigRest(k.D*y, k.P)*y, k.P)
	root := new(big.Int).ModSqrt(big.NewInt(int64(square)), big.NewInt(int64(k.P)))
	if root == nil {
		return -1
	}
	return int(root.Int64())
}

// pairsOf are all pairs of it, found by going through all that might be.
func pairsOf(k impl.Ed) []impl.Pair {
	list := []impl.Pair{}
	for x := range k.P {
		for y := range k.P {
			if onTwist(k, x, y) {
				list = append(list, impl.Pair{X: x, Y: y})
			}
		}
	}
	return list
}

// anyPair is one of it, as if by chance.
func (s *turn) anyPair(k impl.Ed) impl.Pair {
	for {
		y := s.below(k.P)
		if x := twistRoot(k, y); x >= 0 {
			if s.below(2) == 0 {
				x = bigRest(-x, k.P)
			}
			return impl.Pair{X: x, Y: y}
		}
	}
}

func otherPair(k impl.Ed, a impl.Pair) impl.Pair {
	return impl.Pair{X: (k.P - a.X) % k.P, Y: a.Y}
}

// somePairs are the edges of a right k, and some by chance.
func (s *turn) somePairs(k impl.Ed) []impl.Pair {
	base, any := impl.Pair{X: k.BX, Y: k.BY}, s.anyPair(k)
	level := impl.Pair{X: twistRoot(k, 0)}
	return []impl.Pair{one, {Y: k.P - 1}, level, otherPair(k, level), base, otherPair(k, base), any, otherPair(k, any)}
}

func edGroup(k impl.Ed) group[impl.Pair] {
	return group[impl.Pair]{
		name: fmt.Sprintf("%+v", k), zero: one, base: impl.Pair{X: k.BX, Y: k.BY}, order: k.L,
		add:      func(a impl.Pair, b impl.Pair) (impl.Pair, bool) { return impl.EdAdd(k, a, b) },
		mul:      func(n int, a impl.Pair) (impl.Pair, bool) { return impl.EdMul(k, n, a) },
		plainSum: func(a impl.Pair, b impl.Pair) impl.Pair { return twistSum(k, a, b) },
		opposite: func(a impl.Pair) impl.Pair { return otherPair(k, a) },
		all:      func() []impl.Pair { return pairsOf(k) },
		any:      func(s *turn) impl.Pair { return s.anyPair(k) },
	}
}

// hasRoot is found by going through all where p is small, else p is a prime number.
func hasRoot(a int, p int) bool {
	if p > 1000 {
		return big.Jacobi(big.NewInt(int64(a)), big.NewInt(int64(p))) >= 0
	}
	for x := range p {
		if x*x%p == bigRest(a, p) {
			return true
		}
	}
	return false
}

// edFaults are the reasons for which k is no twisted curve. What can't be reckoned for one of them is not asked any more.
func edFaults(k impl.Ed) []string {
	faults := []string{}
	fault := func(what string, is bool) {
		if is {
			faults = append(faults, what)
		}
	}
	fault("P's range", !within(k.P, 13, 1048576))
	fault("L's range", !within(k.L, 5, 2097152))
	fault("L is no prime number", !isPrime(max(k.L, 0)))
	if !within(k.P, 2, 1<<21) {
		return faults
	}
	fault("P is no prime number", !isPrime(k.P))
	fault("P by 8", k.P%8 != 5)
	fault("D's range", !within(k.D, 2, k.P-1))
	fault("B's range", !within(k.BX, 0, k.P-1) || !within(k.BY, 0, k.P-1))
	if !within(k.D, -k.P, 2*k.P) || !within(k.BX, -k.P, 2*k.P) || !within(k.BY, -k.P, 2*k.P) {
		return faults
	}
	near := impl.Ed{P: k.P, D: bigRest(k.D, k.P)}
	base := impl.Pair{X: bigRest(k.BX, k.P), Y: bigRest(k.BY, k.P)}
	fault("D has a root", hasRoot(near.D, k.P))
	fault("B is not of it", !onTwist(near, base.X, base.Y))
	fault("B is (0, 1)", base == one)
	fault("L-fold", edGroup(near).plainFold(max(k.L, 0), base) != one)
	return faults
}
