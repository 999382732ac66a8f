package tests

import (
	"math"
	"math/big"
	"testing"

	"loop.example/g00148/impl"
)

func saysInt(t *testing.T, what string, got int, ok bool, want int) {
	t.Helper()
	if !ok || got != want {
		t.Errorf("%s: got %d %v, want %d true", what, got, ok, want)
	}
}

func refusedInt(t *testing.T, what string, got int, ok bool) {
	t.Helper()
	if ok || got != 0 {
		t.Errorf("%s: got %d %v, want 0 false", what, got, ok)
	}
}

func bigRest(a int, m int) int {
	return int(new(big.Int).Mod(big.NewInt(int64(a)), big.NewInt(int64(m))).Int64())
}

func bigPowInt(a int, e int, m int) int {
	return int(new(big.Int).Exp(big.NewInt(int64(a)), big.NewInt(int64(e)), big.NewInt(int64(m))).Int64())
}

func isPrime(n int) bool {
	return big.NewInt(int64(n)).ProbablyPrime(20)
}

func TestGcd(t *testing.T) {
	cases := []struct{ a, b, want int }{
		{0, 0, 0}, {0, 5, 5}, {5, 0, 5}, {0, math.MaxInt, math.MaxInt}, {math.MaxInt, 0, math.MaxInt},
		{1, 1, 1}, {12, 18, 6}, {18, 12, 6}, {7, 7, 7}, {1, math.MaxInt, 1},
		{math.MaxInt, math.MaxInt, math.MaxInt}, {math.MaxInt, math.MaxInt - 1, 1}, {math.MaxInt, 49, 49}, {7, math.MaxInt, 7},
		{1 << 62, 1 << 40, 1 << 40}, {7540113804746346429, 4660046610375530309, 1},
		{-1, 2, -1}, {2, -1, -1}, {-1, -1, -1}, {0, -1, -1}, {-1, 0, -1}, {math.MinInt, 2, -1}, {2, math.MinInt, -1}, {math.MinInt, math.MinInt, -1},
	}
	for _, c := range cases {
		if got := impl.Gcd(c.a, c.b); got != c.want {
			t.Errorf("Gcd(%d, %d): got %d, want %d", c.a, c.b, got, c.want)
		}
	}
	for a := 1; a <= 100; a++ {
		for b := 1; b <= 100; b++ {
			want := 1
			for d := 1; d <= a; d++ {
				if a%d == 0 && b%d == 0 {
					want = d
				}
			}
			if got := impl.Gcd(a, b); got != want {
				t.Errorf("Gcd(%d, %d): got %d, want %d", a, b, got, want)
			}
		}
	}
}

func TestPowInt(t *testing.T) {
	for m := 1; m <= 20; m++ {
		for a := range 45 {
			want := 1 % m
			for e := range 30 {
				got, ok := impl.PowInt(a, e, m)
				saysInt(t, "PowInt", got, ok, want)
				want = want * a % m
			}
		}
	}
	numbers := []int{0, 1, 2, 3, 65535, 1<<30 - 1, 1 << 30, 1<<30 + 1, 1<<31 + 11, 1 << 40, 1 << 62, math.MaxInt - 1, math.MaxInt}
	for _, a := range numbers {
		for _, e := range numbers {
			for _, m := range []int{1, 2, 3, 1 << 16, 1000003, 1<<29 + 11, 1<<30 - 1, 1 << 30} {
				got, ok := impl.PowInt(a, e, m)
				saysInt(t, "PowInt", got, ok, bigPowInt(a, e, m))
			}
			for _, m := range []int{0, -1, 1<<30 + 1, 1 << 31, math.MaxInt, math.MinInt} {
				got, ok := impl.PowInt(a, e, m)
				refusedInt(t, "PowInt by a wrong modulus", got, ok)
			}
		}
		for _, wrong := range []int{-1, -2, math.MinInt} {
			for _, m := range []int{-1, 0, 1, 7, 1 << 30} {
				got, ok := impl.PowInt(wrong, a, m)
				refusedInt(t, "PowInt of one below 0", got, ok)
				got, ok = impl.PowInt(a, wrong, m)
				refusedInt(t, "PowInt to one below 0", got, ok)
			}
		}
	}
}

func TestIntPowersMultipliedAreThePowerOfTheSum(t *testing.T) {
	s := turn(31)
	for range 20000 {
		m := 1 + s.below(1<<30)
		a, e, f := s.below(1<<31), s.below(1<<31), s.below(1<<31)
		first, _ := impl.PowInt(a, e, m)
		second, _ := impl.PowInt(a, f, m)
		whole, ok := impl.PowInt(a, e+f, m)
		saysInt(t, "PowInt to a sum", whole, ok, first*second%m)
		saysInt(t, "PowInt", first, true, bigPowInt(a, e, m))
	}
}

// invertsInt checks the answer of InvInt for an m in 2 .. 2^30.
func invertsInt(t *testing.T, a int, m int) {
	t.Helper()
	got, ok := impl.InvInt(a, m)
	want := new(big.Int).ModInverse(big.NewInt(int64(bigRest(a, m))), big.NewInt(int64(m)))
	if want == nil {
		refusedInt(t, "InvInt where there is none", got, ok)
		return
	}
	saysInt(t, "InvInt", got, ok, int(want.Int64()))
	if got < 0 || got >= m || bigRest(a, m)*got%m != 1 {
		t.Errorf("InvInt(%d, %d): %d times the first does not leave 1, or is not below the modulus", a, m, got)
	}
}

func TestInvInt(t *testing.T) {
	for m := 2; m <= 60; m++ {
		for a := -130; a <= 130; a++ {
			invertsInt(t, a, m)
		}
	}
	edges := []int{0, 1, 2, 3, -1, -2, -3, 1<<30 - 1, 1 << 30, 1<<30 + 1, -1 << 30, 1<<62 + 1, math.MaxInt, math.MaxInt - 1, math.MinInt, math.MinInt + 1}
	for _, a := range edges {
		for _, m := range []int{2, 3, 4, 7, 1000003, 1<<30 - 35, 1<<30 - 1, 1 << 30} {
			invertsInt(t, a, m)
		}
		for _, m := range []int{1, 0, -1, -2, 1<<30 + 1, 1<<30 + 3, 1 << 31, math.MaxInt, math.MinInt} {
			got, ok := impl.InvInt(a, m)
			refusedInt(t, "InvInt by a wrong modulus", got, ok)
		}
	}
	s := turn(32)
	for range 20000 {
		invertsInt(t, s.below(1<<31)-1<<30, 2+s.below(1<<30-1))
	}
}

func TestPrimeIntSmallOnes(t *testing.T) {
	for n := -20; n <= 20000; n++ {
		want := n >= 2
		for d := 2; d < n && d*d <= n; d++ {
			if n%d == 0 {
				want = false
			}
		}
		if impl.PrimeInt(n) != want {
			t.Errorf("PrimeInt(%d) is %v", n, !want)
		}
	}
}

func TestPrimeIntEdges(t *testing.T) {
	primes := []int{2, 3, 5, 10007, 65537, 1048573, 1048583, 1<<31 - 1, 1<<40 - 87}
	for _, n := range primes {
		if !isPrime(n) || !impl.PrimeInt(n) {
			t.Errorf("PrimeInt(%d) is false", n)
		}
	}
	others := []int{-7, -3, -2, -1, 0, 1, 4, 9, 25, 49, 121, 169, 10007 * 10007, 1048571 * 1048573, 1048573 * 1048573, 1<<40 - 1, 1 << 40, math.MinInt}
	for _, n := range others {
		if impl.PrimeInt(n) {
			t.Errorf("PrimeInt(%d) is true", n)
		}
	}
	for _, n := range []int{1<<40 + 15, 1<<61 - 1, 1<<40 + 27} {
		if impl.PrimeInt(n) {
			t.Errorf("PrimeInt(%d) is true, above 2^40", n)
		}
	}
	if !isPrime(1<<40+15) || !isPrime(1<<61-1) {
		t.Error("the numbers above 2^40 that are looked at are not prime")
	}
	for n := 1<<40 - 200; n <= 1<<40+40; n++ {
		if impl.PrimeInt(n) != (n <= 1<<40 && isPrime(n)) {
			t.Errorf("PrimeInt(%d) is %v", n, impl.PrimeInt(n))
		}
	}
}

// leastRoots are the least root of each a by p, or -1, found by going through all.
func leastRoots(p int) []int {
	roots := make([]int, p)
	for a := range roots {
		roots[a] = -1
	}
	for x := p - 1; x >= 0; x-- {
		roots[x*x%p] = x
	}
	return roots
}

func rootIs(t *testing.T, a int, p int, want int) {
	t.Helper()
	got, ok := impl.RootInt(a, p)
	if want < 0 {
		refusedInt(t, "RootInt where there is none", got, ok)
		return
	}
	if !ok || got != want || got*got%p != a {
		t.Errorf("RootInt(%d, %d): got %d %v, want %d", a, p, got, ok, want)
	}
}

func TestRootSquaredIsItsNumberAndIsTheLeast(t *testing.T) {
	for p := 3; p <= 600; p++ {
		if !isPrime(p) {
			continue
		}
		for a, want := range leastRoots(p) {
			rootIs(t, a, p, want)
		}
	}
	// Of these 786433 and 65537 leave 1 by great powers of 2; some leave 3 by 4, some 5 by 8.
	for _, p := range []int{10007, 12289, 40961, 65519, 65537, 786433, 1048571, 1048573} {
		if !isPrime(p) {
			t.Fatalf("%d is not prime", p)
		}
		roots := leastRoots(p)
		s := turn(33)
		for range 4000 {
			a := s.below(p)
			rootIs(t, a, p, roots[a])
		}
		for _, a := range []int{0, 1, 2, 3, 4, p - 2, p - 1} {
			rootIs(t, a, p, roots[a])
		}
	}
}

func TestRootIntEdges(t *testing.T) {
	cases := []struct{ a, p, want int }{
		{0, 3, 0}, {1, 3, 1}, {2, 3, -1}, {0, 5, 0}, {4, 5, 2}, {2, 5, -1}, {3, 5, -1}, {14, 103, 23},
		{1, 1048573, 1}, {4, 1048573, 2}, {0, 1048573, 0}, {1048572, 1048571, -1}, {1048570, 1048571, -1},
	}
	for _, c := range cases {
		rootIs(t, c.a, c.p, c.want)
	}
	wrong := [][2]int{
		{0, 2}, {1, 2}, {0, 1}, {0, 0}, {0, -3}, {1, -7}, {0, 4}, {1, 4}, {0, 9}, {1, 9}, {4, 15}, {1, 1048575}, {1, 1 << 20},
		{0, 1048583}, {1, 1048583}, {4, 1048583}, {1, 1<<31 - 1}, {1, math.MaxInt}, {1, math.MinInt},
		{-1, 3}, {3, 3}, {4, 3}, {5, 5}, {9, 5}, {-1, 5}, {-4, 5}, {103, 103}, {117, 103}, {-1, 103}, {1048573, 1048573}, {math.MaxInt, 7}, {math.MinInt, 7}, {-1, -1},
	}
	for _, c := range wrong {
		got, ok := impl.RootInt(c[0], c[1])
		refusedInt(t, "RootInt of wrong ones", got, ok)
	}
}
