package tests

import (
	"math"
	"testing"
	"time"

	"loop.example/g00148/impl"
)

// modCalls are the functions of naturals by a third one; ModInv leaves out the second.
func modCalls() map[string]listCall[int] {
	return map[string]listCall[int]{
		"ModMul": func(args [][]int) [][]int { c, _ := impl.ModMul(args[0], args[1], args[2]); return [][]int{c} },
		"ModPow": func(args [][]int) [][]int { c, _ := impl.ModPow(args[0], args[1], args[2]); return [][]int{c} },
		"ModInv": func(args [][]int) [][]int { c, _ := impl.ModInv(args[0], args[2]); return [][]int{c} },
	}
}

func TestModsStandAlone(t *testing.T) {
	lists := [][]int{nil, {1}, {2}, {7}, {65535}, {0, 1}, {5, 6}, {3, 0, 32768}, many(65535, 31), {0}, {-1}, many(1, 65)}
	for what, call := range modCalls() {
		for _, a := range lists {
			for _, b := range lists {
				for _, m := range append(lists, many(65535, 64)) {
					standsAlone(t, what, [][]int{a, b, m}, call)
				}
			}
		}
	}
	// Lesser ones by a greater one are told as they stand, yet in memory of their own.
	for what, call := range modCalls() {
		standsAlone(t, what, [][]int{{5, 6}, {1}, many(65535, 64)}, call)
		standsAlone(t, what, [][]int{many(65535, 63), {1}, many(65535, 64)}, call)
		standsAlone(t, what, [][]int{{1}, many(65535, 63), many(65535, 64)}, call)
	}
}

func TestOneListAsAllOfAMod(t *testing.T) {
	for what, call := range modCalls() {
		for _, a := range moduli() {
			if len(a) <= 8 || what != "ModPow" {
				takesOneListForAll(t, what, a, 3, call)
			}
		}
	}
}

// endsSoon allows far more time than is needed, so that a busy machine does not fail it.
func endsSoon(t *testing.T, what string, call func()) {
	t.Helper()
	begun := time.Now()
	call()
	if took := time.Since(begun); took > 5*time.Second {
		t.Errorf("%s took %v", what, took)
	}
}

func TestModsEndSoon(t *testing.T) {
	full := many(65535, 64)
	less := append([]int{65534}, many(65535, 63)...)
	odd := append([]int{1}, many(65535, 63)...)
	endsSoon(t, "ModMul", func() { impl.ModMul(full, full, less) })
	endsSoon(t, "ModPow", func() { impl.ModPow(less, full, odd) })
	endsSoon(t, "ModInv", func() { impl.ModInv(odd, full) })
	endsSoon(t, "ModInv of side by side ones", func() { impl.ModInv(less, full) })
	endsSoon(t, "Gcd", func() { impl.Gcd(7540113804746346429, 4660046610375530309) })
	endsSoon(t, "PowInt", func() { impl.PowInt(math.MaxInt, math.MaxInt, 1<<30) })
	endsSoon(t, "InvInt", func() { impl.InvInt(math.MinInt, 1<<30-1) })
	endsSoon(t, "PrimeInt", func() { impl.PrimeInt(1<<40 - 87) })
	endsSoon(t, "PrimeInt beyond its range", func() { impl.PrimeInt(math.MaxInt) })
	endsSoon(t, "RootInt", func() { impl.RootInt(1048572, 1048573) })
	endsSoon(t, "RootInt where there is none", func() { impl.RootInt(2, 1048573) })
	endsSoon(t, "RootInt beyond its range", func() { impl.RootInt(1, math.MaxInt) })
}
