package tests

import (
	"fmt"
	"slices"
	"strings"
	"testing"

	"loop.example/g00148/impl"
)

// eachHolds asks a rule of a change to a leaf, and to one that is Ca.
func eachHolds(t *testing.T, what string, rule int, change func(c *impl.Cert), leaf bool, ca bool) {
	t.Helper()
	breaksJust(t, what, changed(cleanLeaf(), change), rule, leaf)
	breaksJust(t, what+" with Ca", changed(cleanCa(), change), rule, ca)
}

func TestRulesOfHostsAndNets(t *testing.T) {
	for what, x := range map[string]impl.Exts{
		"hosts": {Hosts: []string{"a.org"}}, "addresses": {Nets: [][]int{{1, 2, 3, 4}}}, "both": {Hosts: []string{"a.org"}, Nets: [][]int{{1, 2, 3, 4}}},
		"neither": {}, "empty lists": {Hosts: []string{}, Nets: [][]int{}}, "bounds alone": {Allow: []string{"a.org"}, Deny: []string{"b.org"}},
	} {
		some := len(x.Hosts)+len(x.Nets) > 0
		set := func(c *impl.Cert) {
			c.Exts.Hosts, c.Exts.Nets, c.Exts.Allow, c.Exts.Deny = x.Hosts, x.Nets, x.Allow, x.Deny
		}
		eachHolds(t, what, 1, set, !some, false)
		eachHolds(t, what, 2, set, false, some)
	}
}

func TestRuleOfDays(t *testing.T) {
	for _, from := range []int{timeLeast, -1, 0, 1, oneDay - 1, 951782400, timeShortMost - 200*oneDay, timeMost - 399*oneDay - 1} {
		for lasts, broken := range map[int]bool{
			0: false, 1: false, oneDay: false, 397 * oneDay: false, 397*oneDay + 1: false, 398*oneDay - 1: false, 398 * oneDay: false,
			398*oneDay + 1: true, 399*oneDay - 1: true, 399 * oneDay: true, 399*oneDay + 1: true,
		} {
			what := fmt.Sprintf("%d seconds from %d on", lasts, from)
			eachHolds(t, what, 3, func(c *impl.Cert) { c.From, c.To = from, from+lasts }, broken, false)
		}
	}
	eachHolds(t, "all times", 3, func(c *impl.Cert) { c.From, c.To = timeLeast, timeMost }, true, false)
}

func TestRulesOfUsage(t *testing.T) {
	for usage, has := range []bool{false, false, true, true, false, false, true, true} {
		what := fmt.Sprintf("Usage %d", usage)
		set := func(c *impl.Cert) { c.Exts.Usage = usage }
		eachHolds(t, what, 4, set, false, !has)
		eachHolds(t, what, 5, set, has, false)
	}
}

func TestRuleOfE(t *testing.T) {
	for e, broken := range map[int]bool{3: true, 5: true, 257: true, 32769: true, 65533: true, 65535: true, 65537: false} {
		for _, bits := range []int{128, 192, 512} {
			eachHolds(t, fmt.Sprintf("E %d", e), 6, func(c *impl.Cert) { c.Key = rsaKey(oddOf(bits)[1], e) }, broken, broken)
		}
	}
	for _, wrong := range []int{65534, 65536, 65538, 65539} {
		refusesLint(t, fmt.Sprintf("E %d", wrong), changed(cleanLeaf(), func(c *impl.Cert) { c.Key.E = wrong }))
	}
}

func TestRuleOfN(t *testing.T) {
	for _, bits := range append(counted(128, 80), 255, 256, 257, 511, 512) {
		for _, n := range oddOf(bits) {
			for _, e := range []int{3, 65537} {
				eachHolds(t, fmt.Sprintf("N of %d bits", bits), 7, func(c *impl.Cert) { c.Key = rsaKey(n, e) }, bits < 192, bits < 192)
			}
		}
	}
}

// Keys that are not KeyRsa have neither E nor N.
func TestRulesOfOtherKeys(t *testing.T) {
	others := tally{}
	for _, key := range someKeys() {
		others.count(key.Kind == impl.KeyRsa)
		if key.Kind == impl.KeyRsa {
			continue
		}
		set := func(c *impl.Cert) { c.Key = key }
		saysLint(t, "another key", changed(cleanLeaf(), set), nil)
		saysLint(t, "another key with Ca", changed(cleanCa(), set), nil)
	}
	others.enough(t, 100)
}

// eachPlace asks a rule of hosts or addresses, one of them at each place among others that break none.
func eachPlace[E any](t *testing.T, what string, rule int, e E, others []E, set func(x *impl.Exts, list []E), broken bool) {
	t.Helper()
	for size := range len(others) + 1 {
		for at := range size + 1 {
			list := slices.Insert(slices.Clone(others[:size]), at, e)
			eachHolds(t, fmt.Sprintf("%s at %d of %d", what, at, len(list)), rule, func(c *impl.Cert) { set(&c.Exts, list) }, broken, broken)
		}
	}
}

func eachHostPlace(t *testing.T, rule int, host string, broken bool) {
	t.Helper()
	others := []string{"a.a.org", "*.x.a.org", "org", "*.y.x.a.org", "z"}
	eachPlace(t, host, rule, host, others, func(x *impl.Exts, list []string) { x.Hosts = list }, broken)
}

func TestRuleOfStars(t *testing.T) {
	for labels := 3; labels <= hostLabels+1; labels++ {
		eachHostPlace(t, 8, "*."+hostOf(labels-1), labels < 4)
	}
	for labels := 1; labels <= hostLabels; labels++ {
		eachHostPlace(t, 8, hostOf(labels), false)
	}
	eachHostPlace(t, 8, "*.x-y.org", true)
	eachHostPlace(t, 8, "*.xn--bch-hoa.org", true)
	eachHostPlace(t, 8, "*."+longHost(hostBytes), false)
	eachHostPlace(t, 8, "*."+longHost(labelBytes+3), true)
}

// pairsAt are lists of so many, of which those at two places are alike and no others.
func pairsAt[E any](size int, made func(i int) E, says func(what string, list []E)) {
	for i := range size {
		for j := i + 1; j < size; j++ {
			list := []E{}
			for at := range size {
				list = append(list, made(at))
			}
			list[j] = made(i)
			says(fmt.Sprintf("%d of %d, alike at %d and %d", size, size, i, j), list)
		}
	}
}

func TestRuleOfThoseAlike(t *testing.T) {
	host := func(i int) string { return []string{"a.org", "*.b.a.org", "b.org", "c.b.a.org", "org", "x"}[i] }
	net := func(i int) []int { return []int{1, 2, 3, i} }
	for size := 2; size <= impl.MaxHosts; size++ {
		pairsAt(size, host, func(what string, list []string) {
			eachHolds(t, what, 9, func(c *impl.Cert) { c.Exts.Hosts, c.Exts.Nets = list, nil }, true, true)
			eachHolds(t, what+" beside addresses", 9, func(c *impl.Cert) { c.Exts.Hosts, c.Exts.Nets = list, [][]int{net(0), net(1)} }, true, true)
		})
		pairsAt(size, net, func(what string, list [][]int) {
			eachHolds(t, what, 9, func(c *impl.Cert) { c.Exts.Hosts, c.Exts.Nets = nil, list }, true, true)
			eachHolds(t, what+" beside hosts", 9, func(c *impl.Cert) { c.Exts.Hosts, c.Exts.Nets = []string{"a.org", "b.org"}, list }, true, true)
		})
	}
	eachHolds(t, "all alike", 9, func(c *impl.Cert) { c.Exts.Hosts = slices.Repeat([]string{"a.org"}, impl.MaxHosts) }, true, true)
	eachHolds(t, "alike in both", 9, func(c *impl.Cert) { c.Exts.Hosts, c.Exts.Nets = []string{"a", "a"}, [][]int{net(1), net(1)} }, true, true)
}

func TestRuleOfThoseNearlyAlike(t *testing.T) {
	for _, hosts := range [][]string{
		{"a.org"}, {"*.a.org", "a.org"}, {"a.b.org", "ab.org"}, {"a.org", "a.orgs", "ba.org", "a.a.org", "b.org", "a.or"}, {"b.a", "a.b"}, {"*.a.b", "*.b.a"},
		{"x1", "x2", "x11", "1x", "x", "x-1"}, {longHost(hostBytes), "*." + longHost(hostBytes), "z" + longHost(hostBytes)[1:]},
	} {
		eachHolds(t, "hosts", 9, func(c *impl.Cert) {
			c.Exts.Hosts, c.Exts.Allow, c.Exts.Deny = hosts, []string{"a.org", "a.org"}, []string{"a.org"}
		}, false, false)
	}
	for _, nets := range [][][]int{
		{{1, 2, 3, 4}}, {{1, 2, 3, 4}, {4, 3, 2, 1}}, {{1, 23, 0, 0}, {12, 3, 0, 0}, {1, 2, 30, 0}, {1, 2, 3, 0}, {0, 1, 23, 0}, {123, 0, 0, 0}},
		{{0, 0, 0, 0}, {1, 0, 0, 0}, {0, 1, 0, 0}, {0, 0, 1, 0}, {0, 0, 0, 1}, {1, 1, 1, 1}}, {{255, 255, 255, 255}, {255, 255, 255, 254}, {0, 255, 255, 255}},
	} {
		eachHolds(t, "addresses", 9, func(c *impl.Cert) { c.Exts.Nets = nets }, false, false)
	}
}

func TestRuleOfBounds(t *testing.T) {
	for _, allow := range [][]string{nil, {}, {"a.org"}, slices.Repeat([]string{"a.org"}, impl.MaxHosts)} {
		for _, deny := range [][]string{nil, {}, {"b.org"}, slices.Repeat([]string{"b.org"}, impl.MaxHosts)} {
			some := len(allow)+len(deny) > 0
			eachHolds(t, fmt.Sprintf("%d and %d bounds", len(allow), len(deny)), 10, func(c *impl.Cert) { c.Exts.Allow, c.Exts.Deny = allow, deny }, some, false)
		}
	}
}

func TestRuleOfSerial(t *testing.T) {
	for _, serial := range append(counted(1, 140), 255, 256, 1<<32, 1<<32+1, serialMost-1, serialMost) {
		eachHolds(t, fmt.Sprintf("Serial %d", serial), 11, func(c *impl.Cert) { c.Serial = serial }, serial < 64, serial < 64)
	}
	for _, serial := range []int{-1, 0, -64, serialMost + 1} {
		refusesLint(t, "Serial", changed(cleanLeaf(), func(c *impl.Cert) { c.Serial = serial }))
	}
}

func TestRuleOfNames(t *testing.T) {
	for _, row := range []struct {
		subject []string
		issuer  []string
		same    bool
	}{
		{[]string{"Hall"}, []string{"Hall"}, true}, {[]string{"Hall"}, []string{"hALL"}, true}, {[]string{"  Hall "}, []string{"Hall"}, true}, {[]string{"a  b"}, []string{"A B"}, true},
		{[]string{" a   b "}, []string{"A B"}, true}, {[]string{"a", "b", "c", "d"}, []string{"A", "B ", " C", "D"}, true}, {[]string{" "}, []string{"    "}, true},
		{[]string{"ab"}, []string{"a b"}, false}, {[]string{"a b"}, []string{"ab "}, false}, {[]string{"Hall"}, []string{"Hal"}, false}, {[]string{"Hall"}, []string{"Hall", "a"}, false}, {[]string{"a", "Hall"}, []string{"Hall", "a"}, false},
		{[]string{"a", "b"}, []string{"a", "c"}, false}, {[]string{"b", "a"}, []string{"c", "a"}, false}, {[]string{"a b"}, []string{"a", "b"}, false}, {[]string{"[a"}, []string{"{a"}, false}, {[]string{"@"}, []string{"`"}, false}, {[]string{" "}, []string{"a"}, false},
	} {
		set := func(c *impl.Cert) { c.Subject, c.Issuer = row.subject, row.issuer }
		turned := func(c *impl.Cert) { c.Subject, c.Issuer = row.issuer, row.subject }
		eachHolds(t, fmt.Sprintf("%q by %q", row.subject, row.issuer), 12, set, row.same, false)
		eachHolds(t, fmt.Sprintf("%q by %q", row.issuer, row.subject), 12, turned, row.same, false)
	}
}

// eachLabelPlace asks rule 13 of hosts with that label first, last, between others, alone, and behind a star.
func eachLabelPlace(t *testing.T, label string, broken bool) {
	t.Helper()
	for _, host := range []string{label, label + ".org", "a." + label, "a." + label + ".org", "*." + label + ".org", "*.a." + label, "xn--bch-hoa." + label, label + ".xn--bch-hoa"} {
		eachHostPlace(t, 13, host, broken)
	}
}

func TestRuleOfWords(t *testing.T) {
	for label, broken := range map[string]bool{
		"xn--bch-hoa": false, "xn--bcher-kva": false, "xn--a": false, "xn--8a": false, "xn--0": true, "xn--99999999": true, "xn--a-0": true, "xn--bch-ho": true, "xn---a": true, "xn--bcher": false,
		"axn--0": false, "xn-0": false, "xn0": false, "nx--0": false, "xn": false, "x--n": false, "xm--0": false, "a-xn--0": false, "xnn--0": false,
	} {
		if isFalseWord(label) != broken {
			t.Errorf("the test has %q otherwise", label)
		}
		eachLabelPlace(t, label, broken)
	}
}

// A label cannot end with the mark: what has nothing behind it is no host, and so no right certificate.
func TestRuleOfWordsWithNothingBehind(t *testing.T) {
	for _, host := range []string{"xn--", "xn--.org", "a.xn--", "a.xn--.org", "*.xn--.org", "*.a.xn--", "xn--a-", "xn--a-.org", "*.a.xn--a-"} {
		refusesLint(t, host, changed(cleanLeaf(), func(c *impl.Cert) { c.Exts.Hosts = []string{"a.org", host} }))
	}
}

// All short texts behind `xn--` that a label can have.
func TestRuleOfAllShortWords(t *testing.T) {
	seen := tally{}
	for size := 1; size <= 3; size++ {
		eachText([]byte("abeghkz0189-"), size, func(text []byte) {
			label := "xn--" + string(text)
			if text[size-1] == '-' {
				return
			}
			broken := isFalseWord(label)
			eachHolds(t, label, 13, func(c *impl.Cert) { c.Exts.Hosts = []string{label + ".org"} }, broken, broken)
			seen.count(broken)
		})
	}
	seen.enough(t, 200)
}

// Words by chance, whose labels are as long as can be, and what is left of them.
func TestRuleOfLongWords(t *testing.T) {
	s := turn(711)
	seen := tally{}
	for range 2000 {
		text := punyOf(s.someWord(1+s.below(8), 97, []int{123, 700, 20000}[s.below(3)]))
		label := "xn--" + strings.ToLower(text[:min(len(text), 1+s.below(16))])
		if labelsOf(label+".org") == nil {
			continue
		}
		broken := isFalseWord(label)
		eachHolds(t, label, 13, func(c *impl.Cert) { c.Exts.Hosts = []string{"a." + label} }, broken, broken)
		seen.count(broken)
	}
	seen.enough(t, 200)
}

func TestRuleOfPurposes(t *testing.T) {
	for _, purposes := range [][]int{nil, {}, {1}, {2}, {1000}, {1, 2}, {1, 1000}, {2, 3}, {10, 11}, {1, 2, 3, 4, 5, 6}, {2, 3, 4, 5, 6, 7}, {995, 996, 997, 998, 999, 1000}} {
		broken := len(purposes) > 0 && purposes[0] != 1
		eachHolds(t, fmt.Sprintf("Purposes %v", purposes), 14, func(c *impl.Cert) { c.Exts.Purposes = purposes }, broken, false)
	}
}

func TestRuleOfAddresses(t *testing.T) {
	others := [][]int{{1, 2, 3, 4}, {172, 16, 0, 1}, {127, 0, 0, 1}, {8, 8, 8, 8}, {203, 0, 113, 7}}
	set := func(x *impl.Exts, list [][]int) { x.Nets = list }
	for text, broken := range map[string]bool{
		"9.255.255.255": false, "10.0.0.0": true, "10.255.255.255": true, "11.0.0.0": false,
		"192.167.255.255": false, "192.168.0.0": true, "192.168.255.255": true, "192.169.0.0": false,
		"10.1.2.3": true, "192.168.1.1": true, "0.10.0.0": false, "191.168.0.0": false, "193.168.0.0": false, "168.192.0.0": false, "138.0.0.0": false, "192.10.0.0": false, "0.0.0.0": false, "255.255.255.255": false,
	} {
		a, _ := impl.ReadAddress(text)
		eachPlace(t, text, 15, a, others, set, broken)
	}
	for first := range 256 {
		for _, second := range []int{0, 10, 167, 168, 169, 255} {
			a := []int{first, second, 7, 7}
			broken := first == 10 || first == 192 && second == 168
			eachHolds(t, fmt.Sprint(a), 15, func(c *impl.Cert) { c.Exts.Nets = [][]int{a} }, broken, broken)
		}
	}
}
