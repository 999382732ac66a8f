package tests

import (
	"math/big"
	"slices"
	"testing"

	"loop.example/g00148/impl"
)

// bigOf is reckoned apart from the program, so that both can be held against each other.
func bigOf(a []int) *big.Int {
	n := new(big.Int)
	for i := len(a) - 1; i >= 0; i-- {
		n.Lsh(n, 16)
		n.Add(n, big.NewInt(int64(a[i])))
	}
	return n
}

func digitsOf(n *big.Int) []int {
	digits := []int{}
	for rest := new(big.Int).Set(n); rest.Sign() > 0; rest.Rsh(rest, 16) {
		digits = append(digits, int(new(big.Int).And(rest, big.NewInt(65535)).Int64()))
	}
	return digits
}

// many is so many times the same digit.
func many(digit int, times int) []int {
	return slices.Repeat([]int{digit}, times)
}

// power is 65536 to the power of places, times top.
func power(top int, places int) []int {
	return append(many(0, places), top)
}

// turn is a row of numbers that look as if by chance, the same ones in each run.
type turn uint64

func (s *turn) below(n int) int {
	*s = *s*6364136223846793005 + 1442695040888963407
	return int(uint64(*s) >> 33 % uint64(n))
}

// natural has so many digits, among which 0, 1, 32768 and 65535 stand more often than chance has it.
func (s *turn) natural(digits int) []int {
	a := make([]int, digits)
	for i := range a {
		a[i] = s.below(65536)
		if s.below(3) == 0 {
			a[i] = []int{0, 1, 32768, 65535}[s.below(4)]
		}
	}
	if digits > 0 && a[digits-1] == 0 {
		a[digits-1] = 1
	}
	return a
}

// naturals are the edges, and some of all lengths.
func naturals() [][]int {
	list := [][]int{
		nil, {}, {1}, {2}, {7}, {255}, {256}, {32767}, {32768}, {65535},
		{0, 1}, {1, 1}, {65535, 1}, {0, 32768}, {65535, 32767}, {65535, 65535}, {1, 65535}, {0, 65535},
		{0, 0, 1}, {0, 0, 32768}, {65535, 65535, 32767}, {65535, 65535, 65535},
		many(65535, 31), many(65535, 32), many(65535, 33), many(65535, 63), many(65535, 64),
		power(1, 31), power(1, 32), power(1, 63), power(32768, 63), power(65535, 63),
	}
	s := turn(1)
	for digits := 1; digits <= impl.MaxDigits; digits++ {
		list = append(list, s.natural(digits))
	}
	for digits := 1; digits <= 9; digits++ {
		for range 4 {
			list = append(list, s.natural(digits))
		}
	}
	return list
}

// wrongNaturals are lists that are no natural, each for one reason.
func wrongNaturals() [][]int {
	return [][]int{
		{0}, {5, 0}, {0, 0}, append(many(1, 63), 0),
		{-1}, {-1, 1}, {1, -1}, {65536}, {65536, 1}, {1, 65536}, {1, 65536, 1},
		{-65536, 1}, {1 << 62}, {-1 << 63}, {1<<63 - 1, 1},
		many(1, 65), many(65535, 65), many(1, 200), many(0, 65), power(1, 64),
	}
}

func sameList[D comparable](t *testing.T, what string, got []D, want []D) {
	t.Helper()
	if !slices.Equal(got, want) {
		t.Errorf("%s: got %v, want %v", what, got, want)
	}
}

// told checks an answer of digits and a flag, where want is within MaxDigits; else that it is refused.
func told(t *testing.T, what string, got []int, ok bool, want *big.Int) {
	t.Helper()
	digits := digitsOf(want)
	if len(digits) > impl.MaxDigits {
		refused(t, what, got, ok)
		return
	}
	if !ok || !slices.Equal(got, digits) {
		t.Errorf("%s: got %v %v, want %v true", what, got, ok, digits)
	}
}

func refused[D any](t *testing.T, what string, got []D, ok bool) {
	t.Helper()
	if ok || len(got) != 0 {
		t.Errorf("%s: got %v %v, want nothing and false", what, got, ok)
	}
}

// tally counts what was right and what was not, so that a test can tell that it has seen both.
type tally struct {
	right int
	wrong int
}

func (c *tally) count(right bool) {
	if right {
		c.right++
	} else {
		c.wrong++
	}
}

func (c *tally) enough(t *testing.T, least int) {
	t.Helper()
	if c.right < least || c.wrong < least {
		t.Errorf("only %d and %d", c.right, c.wrong)
	}
}
