package tests

import (
	"fmt"
	"slices"
	"testing"

	"loop.example/g00148/impl"
)

// multiples are those of the base, by which all sums of multiples are found.
func (c curveSecret) multiples() []impl.Point {
	return multiplesOf(c.curve, impl.Point{X: c.curve.GX, Y: c.curve.GY})
}

// wants is what Verify should say of r and s, as Q is secret times the base.
func (c curveSecret) wants(multiples []impl.Point, msg []byte, r int, s int) bool {
	n := c.curve.N
	if !within(r, 1, n-1) || !within(s, 1, n-1) {
		return false
	}
	times, _ := bigQuotient(restOf(shortOf(msg), n)+r*c.secret, s, n)
	sum := multiples[times]
	return !sum.Far && sum.X%n == r
}

func TestCurveSignaturesOfAllSmallOnes(t *testing.T) {
	s := turn(131)
	well := 0
	for _, k := range smallCurves() {
		c := s.curveSecretOf(k)
		key, multiples := c.key(), c.multiples()
		for _, msg := range [][]byte{nil, []byte("small")} {
			for r := range k.N + 3 {
				for s := range k.N + 3 {
					want := c.wants(multiples, msg, r, s)
					verifies(t, fmt.Sprintf("%+v, r %d, s %d", k, r, s), key, impl.AlgCurve, msg, append(highThree(r), highThree(s)...), want)
					if want {
						well++
					}
				}
			}
		}
	}
	if well < 200 {
		t.Errorf("only %d signatures of small curves", well)
	}
}

func TestEverySecretAndNonceOfASmallCurve(t *testing.T) {
	k := smallCurves()[6]
	for secret := 1; secret < k.N; secret++ {
		c := curveSecret{k, secret, planeFold(k, secret, impl.Point{X: k.GX, Y: k.GY})}
		for nonce := 1; nonce < k.N; nonce++ {
			for _, msg := range [][]byte{nil, []byte("m"), []byte("n")} {
				r, s := c.numbers(msg, nonce)
				verifies(t, fmt.Sprintf("secret %d, nonce %d", secret, nonce), c.key(), impl.AlgCurve, msg, append(highThree(r), highThree(s)...), r > 0 && s > 0)
			}
		}
	}
}

func TestCurveSignaturesOfGreatOnes(t *testing.T) {
	s := turn(132)
	for _, k := range greatCurves() {
		for _, secret := range []int{1, 2, k.N - 1, 1 + s.below(k.N-1)} {
			c := curveSecret{k, secret, planeFold(k, secret, impl.Point{X: k.GX, Y: k.GY})}
			for _, nonce := range []int{1, 2, k.N - 1, 1 + s.below(k.N-1)} {
				msg := s.someBytes(20)
				sig, _ := c.sign(msg, nonce)
				verifies(t, fmt.Sprintf("secret %d, nonce %d", secret, nonce), c.key(), impl.AlgCurve, msg, sig, true)
			}
		}
	}
}

// r and N less s are a signature wherever r and s are; N more is none, though it leaves the same.
func TestCurveSignatureTurnedAboutOrWithNMore(t *testing.T) {
	s := turn(133)
	for _, k := range greatCurves() {
		c := s.curveSecretOf(k)
		msg := []byte("turned about")
		for range 5 {
			sig, _ := c.sign(msg, s.below(k.N))
			r, s := readThree(sig), readThree(sig[3:])
			verifies(t, "as it is", c.key(), impl.AlgCurve, msg, sig, true)
			verifies(t, "N less s", c.key(), impl.AlgCurve, msg, append(highThree(r), highThree(k.N-s)...), true)
			verifies(t, "N more than s", c.key(), impl.AlgCurve, msg, append(highThree(r), highThree(k.N+s)...), false)
			verifies(t, "N more than r", c.key(), impl.AlgCurve, msg, append(highThree(r+k.N), highThree(s)...), false)
			verifies(t, "N less r", c.key(), impl.AlgCurve, msg, append(highThree(k.N-r), highThree(s)...), false)
			verifies(t, "s ahead of r", c.key(), impl.AlgCurve, msg, append(highThree(s), highThree(r)...), false)
			slices.Reverse(sig[:3])
			slices.Reverse(sig[3:])
			verifies(t, "the lowest first", c.key(), impl.AlgCurve, msg, sig, false)
		}
	}
}

func readThree(b []byte) int {
	return int(b[0])<<16 + int(b[1])<<8 + int(b[2])
}

// With r 0 and s as z, the sum is the base, whose X is 0 here.
func TestCurveSignatureWithNumbersAtTheEdges(t *testing.T) {
	s := turn(134)
	for _, k := range greatCurves() {
		c := s.curveSecretOf(k)
		msg := []byte("at the edges")
		z := restOf(shortOf(msg), k.N)
		for _, r := range []int{0, 1, z, k.N - 1, k.N, k.N + 1, 1<<24 - 1} {
			for _, s := range []int{0, 1, z, k.N - z, k.N - 1, k.N, k.N + 1, 1<<24 - 1} {
				verifies(t, fmt.Sprintf("r %d, s %d", r, s), c.key(), impl.AlgCurve, msg, append(highThree(r), highThree(s)...), false)
			}
		}
	}
}

// edgeMessage is one for which the numbers of a nonce are as wanted; few are tried, as s goes through all that there are.
func (c curveSecret) edgeMessage(nonce int, wanted func(r int, s int) bool) ([]byte, int, int, bool) {
	for i := range 200 {
		msg := []byte{byte(i)}
		if r, s := c.numbers(msg, nonce); r > 0 && s > 0 && wanted(r, s) {
			return msg, r, s, true
		}
	}
	return nil, 0, 0, false
}

func TestCurveSignatureWithNumbersAtTheEdgesThatIsOne(t *testing.T) {
	found := map[string]int{}
	for _, k := range smallCurves() {
		edges := map[string]func(r int, s int) bool{
			"r 1": func(r int, s int) bool { return r == 1 }, "r N - 1": func(r int, s int) bool { return r == k.N-1 },
			"s 1": func(r int, s int) bool { return s == 1 }, "s N - 1": func(r int, s int) bool { return s == k.N-1 },
		}
		c := curveSecret{k, 2, planeFold(k, 2, impl.Point{X: k.GX, Y: k.GY})}
		for what, wanted := range edges {
			for nonce := 1; nonce < k.N; nonce++ {
				if msg, r, s, ok := c.edgeMessage(nonce, wanted); ok {
					found[what]++
					verifies(t, what, c.key(), impl.AlgCurve, msg, append(highThree(r), highThree(s)...), true)
				}
			}
		}
	}
	for _, what := range []string{"r 1", "r N - 1", "s 1", "s N - 1"} {
		if found[what] == 0 {
			t.Errorf("%s was never there", what)
		}
	}
}

// Where P is above N, X may be r and N together: the first two curves have N below P, the third has it above.
func TestCurveSignatureWhoseXIsAboveN(t *testing.T) {
	above := 0
	for _, k := range append(smallCurves(), greatCurves()[:2]...) {
		c := curveSecret{k, k.N - 2, planeFold(k, k.N-2, impl.Point{X: k.GX, Y: k.GY})}
		for nonce := 1; nonce < min(k.N, 60); nonce++ {
			if planeFold(k, nonce, impl.Point{X: k.GX, Y: k.GY}).X < k.N {
				continue
			}
			if r, s := c.numbers([]byte("above"), nonce); r > 0 && s > 0 {
				above++
				verifies(t, "X above N", c.key(), impl.AlgCurve, []byte("above"), append(highThree(r), highThree(s)...), true)
			}
		}
	}
	if above < 20 {
		t.Errorf("X was above N only %d times", above)
	}
}
