package tests

import (
	"bytes"
	"fmt"
	"math"
	"testing"

	"loop.example/g00148/impl"
)

func TestCrlConstants(t *testing.T) {
	sameList(t, "constants", []int{impl.MaxVoid, impl.VoidNo, impl.VoidYes, impl.VoidUnknown}, []int{20, 0, 1, 2})
}

func TestCrlOkByIssuer(t *testing.T) {
	eachName(func(what string, name []string, want bool) {
		saysCrl(t, what, withCrl(func(c *impl.Crl) { c.Issuer = name }), want)
	})
}

func TestCrlOkByTimes(t *testing.T) {
	seen := tally{}
	eachSpan(func(from int, to int, want bool) {
		saysCrl(t, "times", withCrl(func(c *impl.Crl) { c.From, c.To = from, to }), want)
		seen.count(want)
	})
	seen.enough(t, 50)
}

func TestCrlOkByAlg(t *testing.T) {
	for _, alg := range allAlgs() {
		saysCrl(t, "Alg", withCrl(func(c *impl.Crl) { c.Alg = alg }), within(alg, 1, 4))
	}
}

func TestCrlOkBySig(t *testing.T) {
	saysCrl(t, "no Sig", withCrl(func(c *impl.Crl) { c.Sig = nil }), false)
	for size := range 200 {
		for _, b := range []byte{0, 255} {
			saysCrl(t, "Sig", withCrl(func(c *impl.Crl) { c.Sig = bytes.Repeat([]byte{b}, size) }), within(size, 1, 64))
		}
	}
}

func saysSerials(t *testing.T, what string, serials []int, want bool) {
	t.Helper()
	saysCrl(t, what, withCrl(func(c *impl.Crl) { c.Serials = serials }), want)
}

func TestCrlOkBySerials(t *testing.T) {
	saysSerials(t, "nil", nil, true)
	saysSerials(t, "none", []int{}, true)
	for many := range 3 * voidMost {
		saysSerials(t, fmt.Sprintf("%d Serials", many), counted(1, many), many <= 20)
		saysSerials(t, fmt.Sprintf("the last %d Serials", many), counted(serialMost-many+1, many), many <= 20)
	}
	for _, n := range append(farNumbers(), -1, 0, 1, 2, 127, 128, serialMost-1, serialMost, serialMost+1) {
		saysSerials(t, "one", []int{n}, within(n, 1, serialMost))
		saysSerials(t, "ahead of another", []int{n, serialMost}, within(n, 1, serialMost-1))
		saysSerials(t, "behind another", []int{1, n}, within(n, 2, serialMost))
	}
}

func TestCrlOkByOrderOfSerials(t *testing.T) {
	eachOrder([]int{1, 2, 3, 500, serialMost}, func(list []int, rising bool) { saysSerials(t, "in an order", list, rising) })
	for at := range voidMost - 1 {
		list := counted(10, voidMost)
		list[at+1] = list[at]
		saysSerials(t, fmt.Sprintf("that stand still at %d", at), list, false)
		list = counted(10, voidMost)
		list[at], list[at+1] = list[at+1], list[at]
		saysSerials(t, fmt.Sprintf("that fall at %d", at), list, false)
	}
}

func TestCrlsThatAreNotOk(t *testing.T) {
	for _, change := range wrongCrls() {
		saysCrl(t, "wrong", withCrl(change), false)
	}
	for what, change := range unsignableCrls() {
		saysCrl(t, what, withCrl(change), false)
	}
	for _, n := range []int{math.MinInt, -1, 0, 1, math.MaxInt} {
		saysCrl(t, "numbers alone", impl.Crl{From: n, To: n, Alg: n, Serials: []int{n}}, false)
	}
	saysCrl(t, "as it is", plainCrl(), true)
	saysCrl(t, "the greatest", greatestCrl(), true)
}

func TestCrlOkByAndLarge(t *testing.T) {
	s := turn(611)
	seen := tally{}
	for range 3000 {
		c := s.someCrl()
		switch s.below(10) {
		case 0:
			c.Alg = farNumbers()[s.below(len(farNumbers()))]
		case 1:
			c.From, c.To = c.To, c.From
		case 2:
			c.Issuer = append(c.Issuer, s.someName()...)
		case 3:
			c.Serials = append(c.Serials, s.someSerials(voidMost)...)
		case 4:
			c.Sig = append(c.Sig, s.someBytes(sigMost/2)...)
		}
		right := len(crlFaults(c)) == 0
		saysCrl(t, "by chance", c, right)
		seen.count(right)
	}
	seen.enough(t, 500)
}
