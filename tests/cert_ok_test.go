package tests

import (
	"bytes"
	"fmt"
	"math"
	"slices"
	"strings"
	"testing"

	"loop.example/g00148/impl"
)

// heldAgainst wants what is reckoned apart, and says which that was.
func heldAgainst(t *testing.T, what string, c impl.Cert) bool {
	t.Helper()
	right := len(certFaults(c)) == 0
	saysCert(t, what, c, right)
	return right
}

// farNumbers lie far from all limits.
func farNumbers() []int {
	return append(farOff(), -2, 1<<32, 1<<32+1, -1<<32+1, 1<<62+1, -1<<62)
}

func TestCertOkBySerial(t *testing.T) {
	for serial, want := range map[int]bool{-1: false, 0: false, 1: true, 2: true, serialMost - 1: true, serialMost: true, serialMost + 1: false} {
		saysCert(t, "Serial", with(func(c *impl.Cert) { c.Serial = serial }), want)
	}
	for _, serial := range farNumbers() {
		heldAgainst(t, "Serial far off", with(func(c *impl.Cert) { c.Serial = serial }))
	}
}

// saysName looks at a name as Issuer and as Subject.
func saysName(t *testing.T, what string, name []string, want bool) {
	t.Helper()
	if isName(name) != want {
		t.Errorf("%s: the test has it otherwise", what)
	}
	saysCert(t, what+" as Issuer", with(func(c *impl.Cert) { c.Issuer = name }), want)
	saysCert(t, what+" as Subject", with(func(c *impl.Cert) { c.Subject = name }), want)
}

// eachName tells names, and whether they are some.
func eachName(says func(what string, name []string, want bool)) {
	says("nil", nil, false)
	for texts := range 8 {
		says(fmt.Sprintf("%d texts", texts), slices.Repeat([]string{"x"}, texts), within(texts, 1, 4))
	}
	for size := range 2*impl.MaxText + 3 {
		text := strings.Repeat("y", size)
		for _, name := range [][]string{{text}, {text, "x", "x", "x"}, {"x", "x", "x", text}, {"x", text}} {
			says(fmt.Sprintf("a text of %d bytes", size), name, within(size, 1, 40))
		}
	}
	for b := range 256 {
		one := string([]byte{byte(b)})
		for _, text := range []string{one, one + "a", "a" + one, "a" + one + "a", strings.Repeat("a", impl.MaxText-1) + one} {
			says(fmt.Sprintf("byte %d", b), []string{text}, within(b, 32, 126))
			says(fmt.Sprintf("byte %d in the last text", b), []string{"x", "x", text}, within(b, 32, 126))
		}
	}
	for _, text := range []string{"é", "日本", "\u00a0", "\u2028", "a\nb", "\xff\xfe"} {
		says("other letters", []string{text}, false)
	}
	says("blanks alone", []string{" ", "    "}, true)
	says("texts alike", []string{"a", "a", "a", "a"}, true)
}

func TestCertOkByNames(t *testing.T) {
	eachName(func(what string, name []string, want bool) { saysName(t, what, name, want) })
}

// eachSpan tells From and To, and whether they are times of which the second one is not ahead.
func eachSpan(says func(from int, to int, want bool)) {
	list := append(edgeTimes(), timeShortMost+1)
	for _, from := range list {
		for _, to := range list {
			says(from, to, isOne(from) && isOne(to) && from <= to)
		}
	}
	for near := -2; near <= 2; near++ {
		says(1000, 1000+near, near >= 0)
	}
}

func TestCertOkByTimes(t *testing.T) {
	seen := tally{}
	eachSpan(func(from int, to int, want bool) {
		saysCert(t, "times", with(func(c *impl.Cert) { c.From, c.To = from, to }), want)
		seen.count(want)
	})
	seen.enough(t, 50)
}

func TestCertOkByKey(t *testing.T) {
	for _, key := range someKeys() {
		saysCert(t, "a right key", with(func(c *impl.Cert) { c.Key = key }), true)
	}
	for _, key := range keyOfEach() {
		for what, wrong := range spoiltKeys(key) {
			saysCert(t, what, with(func(c *impl.Cert) { c.Key = wrong }), false)
		}
	}
	saysCert(t, "no key", with(func(c *impl.Cert) { c.Key = impl.Key{} }), false)
}

func TestCertOkByAlg(t *testing.T) {
	for _, alg := range allAlgs() {
		for _, key := range keyOfEach() {
			saysCert(t, "Alg", with(func(c *impl.Cert) { c.Alg, c.Key = alg, key }), within(alg, 1, 4))
		}
	}
}

func TestCertOkBySig(t *testing.T) {
	saysCert(t, "no Sig", with(func(c *impl.Cert) { c.Sig = nil }), false)
	for size := range 200 {
		for _, b := range []byte{0, 255} {
			saysCert(t, "Sig", with(func(c *impl.Cert) { c.Sig = bytes.Repeat([]byte{b}, size) }), within(size, 1, 64))
		}
	}
}

func TestCertOkByPath(t *testing.T) {
	for path := -3; path <= 13; path++ {
		saysCert(t, "Path with Ca", withExts(func(x *impl.Exts) { x.Ca, x.Path = true, path }), within(path, -1, 10))
		saysCert(t, "Path without Ca", withExts(func(x *impl.Exts) { x.Ca, x.Path = false, path }), path == -1)
		saysCert(t, "Path alone", with(func(c *impl.Cert) { c.Exts = impl.Exts{Path: path} }), path == -1)
	}
	for _, path := range farNumbers() {
		for _, ca := range []bool{true, false} {
			heldAgainst(t, "Path far off", withExts(func(x *impl.Exts) { x.Ca, x.Path = ca, path }))
		}
	}
	saysCert(t, "nothing at all in Exts", with(func(c *impl.Cert) { c.Exts = impl.Exts{} }), false)
}

func TestCertOkByUsage(t *testing.T) {
	for usage := -2; usage <= 20; usage++ {
		saysCert(t, "Usage", withExts(func(x *impl.Exts) { x.Usage = usage }), within(usage, 0, 7))
	}
	for _, usage := range append(farNumbers(), 256, 257, 32, 64, 128) {
		heldAgainst(t, "Usage far off", withExts(func(x *impl.Exts) { x.Usage = usage }))
	}
}

func TestCertOkByHowManyThereAre(t *testing.T) {
	for size := range 3 * impl.MaxHosts {
		want := size <= 6
		texts := slices.Repeat([]string{"a.org"}, size)
		purposes := []int{}
		for i := range size {
			purposes = append(purposes, 1+i)
		}
		saysCert(t, "Hosts", withExts(func(x *impl.Exts) { x.Hosts = texts }), want)
		saysCert(t, "Nets", withExts(func(x *impl.Exts) { x.Nets = slices.Repeat([][]int{{1, 2, 3, 4}}, size) }), want)
		saysCert(t, "Allow", withExts(func(x *impl.Exts) { x.Allow = texts }), want)
		saysCert(t, "Deny", withExts(func(x *impl.Exts) { x.Deny = texts }), want)
		saysCert(t, "Purposes", withExts(func(x *impl.Exts) { x.Purposes = purposes }), want)
	}
}

// inEachPlace has it first, last, and alone.
func inEachPlace[E any](e E, other E) [][]E {
	return [][]E{{e}, {e, other}, {other, e}, {other, other, other, other, other, e}, {other, e, other}}
}

func TestCertOkByHosts(t *testing.T) {
	seen := tally{}
	for _, text := range slices.Concat(patterns(), wrongHosts(), []string{"*", "*.", "*.org", "*.a.org", "*.*.a.org", "a.*.org", "**.a.org", "*a.org", "*.A.org"}) {
		for _, list := range inEachPlace(text, "a.org") {
			isPattern, isHost := patternLabels(text) != nil, labelsOf(text) != nil
			saysCert(t, "Hosts", withExts(func(x *impl.Exts) { x.Hosts = list }), isPattern)
			saysCert(t, "Allow", withExts(func(x *impl.Exts) { x.Allow = list }), isHost)
			saysCert(t, "Deny", withExts(func(x *impl.Exts) { x.Deny = list }), isHost)
			seen.count(isPattern)
		}
	}
	seen.enough(t, 200)
	for _, star := range []string{"*.a.org", "*.b.a.org"} {
		saysCert(t, "a star in Hosts", withExts(func(x *impl.Exts) { x.Hosts = []string{star} }), true)
		saysCert(t, "a star in Allow", withExts(func(x *impl.Exts) { x.Allow = []string{star} }), false)
		saysCert(t, "a star in Deny", withExts(func(x *impl.Exts) { x.Deny = []string{star} }), false)
	}
	saysCert(t, "an empty host", withExts(func(x *impl.Exts) { x.Hosts = []string{""} }), false)
}

func TestCertOkByNets(t *testing.T) {
	for size := range 8 {
		for _, list := range inEachPlace(many(7, size), []int{1, 2, 3, 4}) {
			saysCert(t, "how many numbers", withExts(func(x *impl.Exts) { x.Nets = list }), size == 4)
		}
	}
	for at := range 4 {
		for _, n := range append(farNumbers(), -256, -255, -1, 0, 1, 254, 255, 256, 257, 511, 512) {
			a := []int{9, 9, 9, 9}
			a[at] = n
			for _, list := range inEachPlace(a, []int{1, 2, 3, 4}) {
				saysCert(t, "a number", withExts(func(x *impl.Exts) { x.Nets = list }), within(n, 0, 255))
			}
		}
	}
	saysCert(t, "nil for an address", withExts(func(x *impl.Exts) { x.Nets = [][]int{nil} }), false)
}

// eachOrder tells all lists of at most three of these numbers, which rise, and whether the list does.
func eachOrder(numbers []int, says func(list []int, rising bool)) {
	for size := range 4 {
		eachText(allBytes()[:len(numbers)], size, func(text []byte) {
			list := []int{}
			rising := true
			for i, b := range text {
				rising = rising && (i == 0 || b > text[i-1])
				list = append(list, numbers[b])
			}
			says(list, rising)
		})
	}
}

func TestCertOkByPurposes(t *testing.T) {
	for _, n := range append(farNumbers(), -1, 0, 1, 2, 999, 1000, 1001, 1002) {
		saysCert(t, "one purpose", withExts(func(x *impl.Exts) { x.Purposes = []int{n} }), within(n, 1, 1000))
		saysCert(t, "ahead of another", withExts(func(x *impl.Exts) { x.Purposes = []int{n, 1000} }), within(n, 1, 999))
		saysCert(t, "behind another", withExts(func(x *impl.Exts) { x.Purposes = []int{1, n} }), within(n, 2, 1000))
	}
	eachOrder([]int{1, 2, 3, 500, 1000}, func(list []int, rising bool) {
		saysCert(t, "in an order", withExts(func(x *impl.Exts) { x.Purposes = list }), rising)
	})
	saysCert(t, "that fall at the end", withExts(func(x *impl.Exts) { x.Purposes = []int{1, 2, 3, 4, 6, 5} }), false)
	saysCert(t, "that stand still at the end", withExts(func(x *impl.Exts) { x.Purposes = []int{1, 2, 3, 4, 5, 5} }), false)
}

func TestCertOkByAndLarge(t *testing.T) {
	s := turn(311)
	keys := append(keyOfEach(), impl.Key{}, rsaKey(many(1, 3), 3))
	seen := tally{}
	for range 3000 {
		c := s.someCert(keys)
		switch s.below(12) {
		case 0:
			c.Serial = farNumbers()[s.below(len(farNumbers()))]
		case 1:
			c.From, c.To = c.To, c.From
		case 2:
			c.Exts.Path = s.below(20) - 5
		case 3:
			c.Exts.Ca = !c.Exts.Ca
		case 4:
			c.Issuer = append(c.Issuer, s.someName()...)
		case 5:
			c.Exts.Allow = append(c.Exts.Allow, s.someOf(patterns())...)
		case 6:
			c.Exts.Purposes = append(c.Exts.Purposes, s.below(1200))
		}
		seen.count(heldAgainst(t, "by chance", c))
	}
	seen.enough(t, 500)
}

func TestCertOkOfNothing(t *testing.T) {
	saysCert(t, "nothing", impl.Cert{}, false)
	for _, n := range []int{math.MinInt, -1, 0, 1, math.MaxInt} {
		c := impl.Cert{Serial: n, From: n, To: n, Alg: n, Key: impl.Key{Kind: n, E: n}, Exts: impl.Exts{Ca: n > 0, Path: n, Usage: n}}
		saysCert(t, "numbers alone", c, false)
	}
	saysCert(t, "as it is", fullCert(), true)
	saysCert(t, "with nothing in Exts", plainCert(), true)
	saysCert(t, "the greatest", greatestCert(), true)
}
