package tests

import (
	"math/big"
	"slices"
	"testing"

	"loop.example/g00148/impl"
)

// moduli are the edges, and some of all lengths; none is 0.
func moduli() [][]int {
	list := [][]int{
		{1}, {2}, {3}, {4}, {7}, {9}, {12}, {30}, {65521}, {65535},
		{0, 1}, {1, 1}, {65535, 65535}, {0, 0, 1}, {0, 32768}, {1, 0, 0, 32768},
		many(65535, 31), power(1, 32), power(1, 63), power(32768, 63), many(65535, 64),
	}
	s := turn(21)
	for _, digits := range []int{1, 1, 1, 2, 2, 3, 4, 5, 8, 16, 31, 32, 33, 48, 63, 64} {
		list = append(list, s.natural(digits))
	}
	return list
}

// fewNaturals are 0, 1, lesser and greater ones, up to the greatest.
func fewNaturals() [][]int {
	s := turn(22)
	list := [][]int{nil, {}, {1}, {2}, {3}, {6}, {65535}, {0, 1}, {65535, 65535}, power(1, 31), power(1, 63), many(65535, 64)}
	for _, digits := range []int{1, 2, 3, 5, 8, 17, 32, 63, 64} {
		list = append(list, s.natural(digits))
	}
	return list
}

func bigMul(a []int, b []int, m []int) *big.Int {
	product := new(big.Int).Mul(bigOf(a), bigOf(b))
	return product.Mod(product, bigOf(m))
}

func bigPow(a []int, e []int, m []int) *big.Int {
	return new(big.Int).Exp(bigOf(a), bigOf(e), bigOf(m))
}

func TestModMulIsWhatTheProductLeaves(t *testing.T) {
	for _, m := range moduli() {
		for _, a := range fewNaturals() {
			for _, b := range fewNaturals() {
				got, ok := impl.ModMul(a, b, m)
				told(t, "ModMul", got, ok, bigMul(a, b, m))
			}
		}
	}
}

func TestModMulOfLongProducts(t *testing.T) {
	full := many(65535, 64)
	cases := []struct{ a, b, m, want []int }{
		{full, full, full, nil},
		{full, full, []int{2}, []int{1}},
		{full, full, []int{65535}, nil},
		{full, full, []int{0, 1}, []int{1}},
		{full, full, power(1, 63), []int{1}},
		{power(1, 63), power(1, 63), full, power(1, 62)},
		{power(32768, 63), power(32768, 63), full, power(16384, 63)},
		{power(1, 63), power(1, 63), []int{7}, []int{1}},
		{power(1, 63), power(1, 63), []int{11}, []int{9}},
		{full, full, append([]int{65534}, many(65535, 63)...), []int{1}},
	}
	for _, c := range cases {
		got, ok := impl.ModMul(c.a, c.b, c.m)
		if !ok || !slices.Equal(got, c.want) {
			t.Errorf("ModMul(%v, %v, %v): got %v %v, want %v", c.a, c.b, c.m, got, ok, c.want)
		}
	}
	s := turn(23)
	for range 300 {
		a, b, m := s.natural(64), s.natural(64), s.natural(1+s.below(64))
		got, ok := impl.ModMul(a, b, m)
		told(t, "ModMul of two long ones", got, ok, bigMul(a, b, m))
	}
}

func TestModPowIsWhatThePowerLeaves(t *testing.T) {
	exponents := [][]int{nil, {}, {1}, {2}, {3}, {5}, {16}, {255}, {32768}, {65535}, {0, 1}, {1, 1}, {0, 32768}, {12345, 6789}, {7, 0, 1}, {65535, 65535, 65535}}
	for _, m := range moduli() {
		for _, a := range fewNaturals() {
			for _, e := range exponents {
				got, ok := impl.ModPow(a, e, m)
				told(t, "ModPow", got, ok, bigPow(a, e, m))
			}
		}
	}
}

func TestModPowWithLongExponents(t *testing.T) {
	s := turn(24)
	for _, digits := range []int{8, 16, 31, 32, 33, 63, 64} {
		a, e, m := s.natural(64), s.natural(digits), s.natural(1+s.below(64))
		got, ok := impl.ModPow(a, e, m)
		told(t, "ModPow", got, ok, bigPow(a, e, m))
	}
	full := many(65535, 64)
	for _, m := range [][]int{{1}, {2}, {65521}, power(1, 63), full} {
		got, ok := impl.ModPow(full, full, m)
		told(t, "ModPow of the greatest", got, ok, bigPow(full, full, m))
		got, ok = impl.ModPow([]int{3}, power(32768, 63), m)
		told(t, "ModPow with the highest bit alone", got, ok, bigPow([]int{3}, power(32768, 63), m))
	}
}

func TestPowersMultipliedAreThePowerOfTheSum(t *testing.T) {
	s := turn(25)
	for round := range 150 {
		m := moduli()[round%len(moduli())]
		a := s.natural(s.below(12))
		e, f := s.natural(s.below(5)), s.natural(s.below(5))
		sum, _ := impl.NatAdd(e, f)
		first, ok1 := impl.ModPow(a, e, m)
		second, ok2 := impl.ModPow(a, f, m)
		product, ok3 := impl.ModMul(first, second, m)
		whole, ok4 := impl.ModPow(a, sum, m)
		if !ok1 || !ok2 || !ok3 || !ok4 || !slices.Equal(product, whole) {
			t.Errorf("%v to %v and to %v by %v: %v multiplied, %v of the sum", a, e, f, m, product, whole)
		}
	}
}

// inverts checks the answer of ModInv for naturals a and m, m not 0.
func inverts(t *testing.T, a []int, m []int) {
	t.Helper()
	got, ok := impl.ModInv(a, m)
	want := new(big.Int).ModInverse(bigOf(a), bigOf(m))
	if want == nil || slices.Equal(m, []int{1}) {
		refused(t, "ModInv where there is none", got, ok)
		return
	}
	told(t, "ModInv", got, ok, want)
	if impl.NatCompare(got, m) != -1 {
		t.Errorf("ModInv(%v, %v): %v is not below the modulus", a, m, got)
	}
	if left, _ := impl.ModMul(got, a, m); !slices.Equal(left, []int{1}) {
		t.Errorf("ModInv(%v, %v): %v times the first leaves %v", a, m, got, left)
	}
}

func TestInverseTimesItsNumberLeavesOne(t *testing.T) {
	for _, m := range moduli() {
		for _, a := range naturals() {
			inverts(t, a, m)
		}
	}
	for m := 1; m <= 60; m++ {
		for a := range 130 {
			first, _ := impl.NatOf(a)
			second, _ := impl.NatOf(m)
			inverts(t, first, second)
		}
	}
	s := turn(26)
	for range 2000 {
		inverts(t, s.natural(s.below(10)), s.natural(1+s.below(8)))
	}
}

func TestModInvEdges(t *testing.T) {
	full := many(65535, 64)
	less := append([]int{65534}, many(65535, 63)...)
	cases := []struct {
		a, m, want []int
	}{
		{[]int{1}, []int{2}, []int{1}},
		{[]int{3}, []int{2}, []int{1}},
		{[]int{1}, []int{7}, []int{1}},
		{[]int{6}, []int{7}, []int{6}},
		{[]int{10}, []int{7}, []int{5}},
		{[]int{1}, full, []int{1}},
		{less, full, less},
		{full, less, []int{1}},
		{[]int{2}, full, power(32768, 63)},
		{full, []int{2}, []int{1}},
		{[]int{65535}, []int{0, 1}, []int{65535}},
	}
	for _, c := range cases {
		got, ok := impl.ModInv(c.a, c.m)
		if !ok || !slices.Equal(got, c.want) {
			t.Errorf("ModInv(%v, %v): got %v %v, want %v", c.a, c.m, got, ok, c.want)
		}
	}
	none := [][2][]int{
		{nil, {1}}, {{1}, {1}}, {{5}, {1}}, {full, {1}}, {nil, {2}}, {{}, {7}}, {{2}, {2}}, {{7}, {7}}, {{14}, {7}},
		{{6}, {9}}, {{15}, {9}}, {{2}, {4}}, {{0, 1}, {0, 1}}, {{2}, {0, 1}}, {full, full}, {nil, full}, {{3}, full}, {{65535}, full}, {full, {65535}},
	}
	for _, c := range none {
		got, ok := impl.ModInv(c[0], c[1])
		refused(t, "ModInv where there is none", got, ok)
	}
}

func TestRemaindersByOne(t *testing.T) {
	one := []int{1}
	for _, a := range fewNaturals() {
		for _, b := range [][]int{nil, {}, {1}, {2}, {65535}, {0, 1}, {5, 6, 7}} {
			got, ok := impl.ModMul(a, b, one)
			told(t, "ModMul by 1", got, ok, new(big.Int))
			got, ok = impl.ModPow(a, b, one)
			told(t, "ModPow by 1", got, ok, new(big.Int))
		}
		got, ok := impl.ModInv(a, one)
		refused(t, "ModInv by 1", got, ok)
	}
}

func TestModPowToZeroAndOfZero(t *testing.T) {
	for _, m := range moduli() {
		if slices.Equal(m, []int{1}) {
			continue
		}
		for _, zero := range [][]int{nil, {}} {
			for _, a := range fewNaturals() {
				got, ok := impl.ModPow(a, zero, m)
				told(t, "ModPow to 0", got, ok, big.NewInt(1))
			}
			for _, e := range [][]int{{1}, {2}, {65535}, {0, 1}} {
				got, ok := impl.ModPow(zero, e, m)
				told(t, "ModPow of 0", got, ok, new(big.Int))
				got, ok = impl.ModPow(m, e, m)
				told(t, "ModPow of the modulus", got, ok, new(big.Int))
			}
		}
	}
}

func TestModsRefuseWrongArguments(t *testing.T) {
	well := [][]int{nil, {1}, {5, 6}, many(65535, 64)}
	for _, zero := range [][]int{nil, {}} {
		for _, a := range well {
			for _, b := range well {
				refusesMods(t, a, b, zero)
			}
		}
	}
	for _, wrong := range wrongNaturals() {
		for _, a := range well {
			for _, b := range well {
				refusesMods(t, wrong, a, b)
				refusesMods(t, a, b, wrong)
				got, ok := impl.ModMul(a, wrong, b)
				refused(t, "ModMul with a wrong second", got, ok)
				got, ok = impl.ModPow(a, wrong, b)
				refused(t, "ModPow with a wrong second", got, ok)
			}
		}
		refusesMods(t, wrong, wrong, wrong)
	}
}

func refusesMods(t *testing.T, a []int, b []int, m []int) {
	t.Helper()
	got, ok := impl.ModMul(a, b, m)
	refused(t, "ModMul of a wrong one", got, ok)
	got, ok = impl.ModPow(a, b, m)
	refused(t, "ModPow of a wrong one", got, ok)
	got, ok = impl.ModInv(a, m)
	refused(t, "ModInv of a wrong one", got, ok)
}
