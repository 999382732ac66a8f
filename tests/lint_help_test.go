package tests

import (
	"slices"
	"strings"
	"testing"

	"loop.example/g00148/impl"
)

const (
	rulesMost = 15
	lintMost  = 20
	leafDays  = 398
	oneDay    = 86400
)

// hasTwo tells whether two of them are alike, each held against each.
func hasTwo[E any](list []E, alike func(a E, b E) bool) bool {
	for i, a := range list {
		if slices.ContainsFunc(list[i+1:], func(b E) bool { return alike(a, b) }) {
			return true
		}
	}
	return false
}

func isFalseWord(label string) bool {
	return strings.HasPrefix(label, "xn--") && wordOf(label[4:]) == nil
}

// breaks is reckoned apart from the program, for a right certificate and one rule of the table.
func breaks(c impl.Cert, rule int) bool {
	x, isRsa := c.Exts, c.Key.Kind == impl.KeyRsa
	switch rule {
	case 1:
		return !x.Ca && len(x.Hosts)+len(x.Nets) == 0
	case 2:
		return x.Ca && len(x.Hosts)+len(x.Nets) > 0
	case 3:
		return !x.Ca && c.To-c.From > leafDays*oneDay
	case 4:
		return x.Ca && slices.Contains([]int{0, 1, 4, 5}, x.Usage)
	case 5:
		return !x.Ca && slices.Contains([]int{2, 3, 6, 7}, x.Usage)
	case 6:
		return isRsa && c.Key.E < 65537
	case 7:
		return isRsa && bigOf(c.Key.N).BitLen() < 192
	case 8:
		return slices.ContainsFunc(x.Hosts, func(host string) bool { return host[0] == '*' && strings.Count(host, ".") < 3 })
	case 9:
		return hasTwo(x.Hosts, func(a string, b string) bool { return a == b }) || hasTwo(x.Nets, slices.Equal)
	case 10:
		return !x.Ca && len(x.Allow)+len(x.Deny) > 0
	case 11:
		return c.Serial < 64
	case 12:
		return !x.Ca && sameName(c.Subject, c.Issuer)
	case 13:
		return slices.ContainsFunc(x.Hosts, func(host string) bool { return slices.ContainsFunc(strings.Split(host, "."), isFalseWord) })
	case 14:
		return !x.Ca && len(x.Purposes) > 0 && !slices.Contains(x.Purposes, 1)
	}
	return slices.ContainsFunc(x.Nets, func(a []int) bool { return a[0] == 10 || a[0] == 192 && a[1] == 168 })
}

// brokenBy are the rules that a right certificate breaks.
func brokenBy(c impl.Cert) []int {
	return slices.DeleteFunc(counted(1, rulesMost), func(rule int) bool { return !breaks(c, rule) })
}

// cleanLeaf stands at the edge of many rules, and breaks none.
func cleanLeaf() impl.Cert {
	return impl.Cert{
		Serial: 64, Issuer: []string{"Hall"}, Subject: []string{"gate"}, From: 0, To: leafDays * oneDay,
		Key: rsaKey(oddOf(192)[0], 65537), Alg: impl.AlgPss, Sig: []byte{1, 2, 3},
		Exts: impl.Exts{Path: -1, Usage: 5, Hosts: []string{"*.b.a.org", "a.org"}, Nets: [][]int{{9, 255, 255, 255}}, Purposes: []int{1, 2}},
	}
}

func cleanCa() impl.Cert {
	c := cleanLeaf()
	c.Exts = impl.Exts{Ca: true, Path: 2, Usage: 2}
	return c
}

// cleanOnes are a leaf and one that is Ca; none breaks a rule.
func cleanOnes() []impl.Cert {
	return []impl.Cert{cleanLeaf(), cleanCa()}
}

// changed is c with a change that c itself does not see.
func changed(c impl.Cert, change func(c *impl.Cert)) impl.Cert {
	c = filled(c)
	change(&c)
	return c
}

// breaches break one rule each of a leaf, and none beside.
func breaches() map[int]func(c *impl.Cert) {
	return map[int]func(c *impl.Cert){
		3:  func(c *impl.Cert) { c.To = c.From + leafDays*oneDay + 1 },
		5:  func(c *impl.Cert) { c.Exts.Usage ^= 2 },
		6:  func(c *impl.Cert) { c.Key.E = 65535 },
		7:  func(c *impl.Cert) { c.Key.N = oddOf(191)[1] },
		8:  func(c *impl.Cert) { c.Exts.Hosts = append(c.Exts.Hosts, "*.a.org") },
		9:  func(c *impl.Cert) { c.Exts.Hosts = append(c.Exts.Hosts, "z.org", "z.org") },
		10: func(c *impl.Cert) { c.Exts.Deny = []string{"x.org"} },
		11: func(c *impl.Cert) { c.Serial = 63 },
		12: func(c *impl.Cert) { c.Subject = []string{" hALL "} },
		13: func(c *impl.Cert) { c.Exts.Hosts = append(c.Exts.Hosts, "a.xn--0") },
		14: func(c *impl.Cert) { c.Exts.Purposes = []int{2, 3} },
		15: func(c *impl.Cert) { c.Exts.Nets = append(c.Exts.Nets, []int{10, 0, 0, 1}) },
	}
}

// breaching is c with the breaches of these rules.
func breaching(c impl.Cert, rules ...int) impl.Cert {
	each := breaches()
	return changed(c, func(c *impl.Cert) {
		for _, rule := range rules {
			each[rule](c)
		}
	})
}

// leafRules are those that breaches tell, rising; all of them together are as many as one can break.
func leafRules() []int {
	return []int{3, 5, 6, 7, 8, 9, 10, 11, 12, 13, 14, 15}
}

// saysLint wants just these rules of a right certificate, and Clean just where all of them are excepted.
func saysLint(t *testing.T, what string, c impl.Cert, want []int) {
	t.Helper()
	if faults := certFaults(c); len(faults) > 0 || !slices.Equal(brokenBy(c), want) {
		t.Fatalf("%s: the test has it otherwise: %v %v, want %v", what, faults, brokenBy(c), want)
	}
	if got, ok := impl.Lint(c); !ok || !slices.Equal(got, want) {
		t.Errorf("%s: Lint of %+v: got %v %v, want %v", what, c, got, ok, want)
	}
	saysClean(t, what, c, want, true)
	saysClean(t, what+", all excepted", c, counted(1, rulesMost), true)
	saysClean(t, what+", none excepted", c, nil, len(want) == 0)
	for at := range want {
		saysClean(t, what+", one fewer", c, slices.Delete(slices.Clone(want), at, at+1), false)
	}
}

// breaksJust wants the rule to be told where it is broken; what else is told is reckoned.
func breaksJust(t *testing.T, what string, c impl.Cert, rule int, broken bool) {
	t.Helper()
	if breaks(c, rule) != broken {
		t.Errorf("%s: the test has it otherwise: rule %d of %+v", what, rule, c)
	}
	saysLint(t, what, c, brokenBy(c))
}

func refusesLint(t *testing.T, what string, c impl.Cert) {
	t.Helper()
	got, ok := impl.Lint(c)
	refused(t, what+": Lint", got, ok)
	for _, except := range [][]int{nil, counted(1, rulesMost), counted(-20, 40)} {
		saysClean(t, what, c, except, false)
	}
	saysWorst(t, what, []impl.Cert{c}, -1, 0)
	refusesCounts(t, what, []impl.Cert{c})
}

func saysClean(t *testing.T, what string, c impl.Cert, except []int, want bool) {
	t.Helper()
	if got := impl.Clean(c, except); got != want {
		t.Errorf("%s: Clean of %+v but for %v: got %v, want %v", what, c, except[:min(len(except), 30)], got, want)
	}
}

func saysWorst(t *testing.T, what string, list []impl.Cert, place int, many int) {
	t.Helper()
	if gotPlace, gotMany := impl.Worst(list); gotPlace != place || gotMany != many {
		t.Errorf("%s: Worst of %d: got %d and %d, want %d and %d", what, len(list), gotPlace, gotMany, place, many)
	}
}

func saysCounts(t *testing.T, what string, list []impl.Cert, want []int) {
	t.Helper()
	got, ok := impl.Counts(list)
	sameList(t, what+": Counts", got, want)
	if !ok {
		t.Errorf("%s: Counts of %d: false", what, len(list))
	}
}

func refusesCounts(t *testing.T, what string, list []impl.Cert) {
	t.Helper()
	got, ok := impl.Counts(list)
	refused(t, what+": Counts", got, ok)
}

// saysList holds Worst and Counts of a list against what is reckoned of each.
func saysList(t *testing.T, what string, list []impl.Cert) {
	t.Helper()
	sums, many, wrong := make([]int, rulesMost), []int{}, 0
	for _, c := range list {
		if len(certFaults(c)) > 0 {
			many, wrong = append(many, 0), wrong+1
			continue
		}
		many = append(many, len(brokenBy(c)))
		for _, rule := range brokenBy(c) {
			sums[rule-1]++
		}
	}
	place, most := -1, 0
	if len(many) > 0 && slices.Max(many) > 0 && len(list) <= lintMost {
		most = slices.Max(many)
		place = slices.Index(many, most)
	}
	saysWorst(t, what, list, place, most)
	if wrong > 0 || len(list) > lintMost {
		refusesCounts(t, what, list)
	} else {
		saysCounts(t, what, list, sums)
	}
}

// houseKeys are of each kind, those of KeyRsa at both sides of each bound.
func houseKeys() []impl.Key {
	list := keyOfEach()
	for _, bits := range []int{128, 191, 192, 193, 512} {
		for _, n := range oddOf(bits) {
			for _, e := range []int{3, 65535, 65537} {
				list = append(list, rsaKey(n, e))
			}
		}
	}
	return list
}

// houseHosts are patterns at both sides of the bounds of rules.
func houseHosts() []string {
	return []string{
		"*.a.org", "*.b.org", "*.b.a.org", "*.c.b.a.org", "*.b.b.b.b.b.b.b.a", "org", "a.org", "b.a.org", "x.y.z.org",
		"xn--bch-hoa.org", "a.xn--bch-hoa", "xn--0.org", "a.xn--0", "b.xn--99999999.org", "*.xn--0.org", "*.b.a.xn--bcher-kva", "axn--0.org", "xn-0.org", "xn.org",
	}
}

// houseNets stand at both sides of the bounds of rule 15.
func houseNets() [][]int {
	return [][]int{
		{9, 255, 255, 255}, {10, 0, 0, 0}, {10, 255, 255, 255}, {11, 0, 0, 0},
		{192, 167, 255, 255}, {192, 168, 0, 0}, {192, 168, 255, 255}, {192, 169, 0, 0},
		{0, 0, 0, 0}, {1, 0, 0, 0}, {168, 192, 0, 0}, {191, 168, 0, 0}, {193, 168, 0, 0}, {0, 10, 0, 0}, {64, 168, 0, 0}, {26, 0, 0, 0}, {255, 255, 255, 255},
	}
}

// someHouseCert is right, and breaks or keeps each rule with about the same chance.
func (s *turn) someHouseCert(keys []impl.Key) impl.Cert {
	c := s.someCert(keys)
	if s.below(3) > 0 {
		c.From = s.below(timeMost - 400*oneDay)
		c.To = c.From + (396+s.below(4))*oneDay + s.below(3)
	}
	if s.below(2) == 0 {
		c.Serial = 1 + s.below(130)
	}
	if s.below(2) == 0 {
		c.Subject = slices.Clone(c.Issuer)
		c.Subject[0] = strings.ToUpper(c.Subject[0])
	}
	c.Exts.Hosts, c.Exts.Nets = nil, nil
	if s.below(3) > 0 {
		c.Exts.Hosts = s.someOf(houseHosts())
	}
	for range []int{0, 0, 1, 2, impl.MaxHosts}[s.below(5)] {
		c.Exts.Nets = append(c.Exts.Nets, houseNets()[s.below(len(houseNets()))])
	}
	return c
}
