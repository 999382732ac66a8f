package tests

import (
	"fmt"
	"slices"
	"testing"

	"loop.example/g00148/impl"
)

// Rules that are told are broken, and no others: of many certificates, with keys of each kind, Ca and not.
func TestLintTellsJustWhatIsBroken(t *testing.T) {
	s, keys := turn(701), append(houseKeys(), someKeys()...)
	seen := [rulesMost + 1]tally{}
	for i := range 12000 {
		c := s.someHouseCert(keys)
		want := brokenBy(c)
		saysLint(t, fmt.Sprintf("certificate %d", i), c, want)
		for rule := 1; rule <= rulesMost; rule++ {
			seen[rule].count(slices.Contains(want, rule))
		}
	}
	for rule := 1; rule <= rulesMost; rule++ {
		seen[rule].enough(t, 400)
	}
}

// Each set of breaches, by itself and on one that is Ca, where some of them break nothing.
func TestLintOfEachSetOfBreaches(t *testing.T) {
	rules := leafRules()
	for _, set := range sets(len(rules)) {
		picked, ca := []int{}, []int{}
		for _, n := range set {
			picked = append(picked, rules[n-1])
		}
		leaf := breaching(cleanLeaf(), picked...)
		saysLint(t, "a leaf", leaf, picked)
		hosts := false
		for _, rule := range picked {
			switch rule {
			case 5:
				ca = append(ca, 4)
			case 8, 9, 13, 15:
				hosts = true
				ca = append(ca, rule)
			case 6, 7, 11:
				ca = append(ca, rule)
			}
		}
		if hosts {
			ca = append(ca, 2)
		}
		slices.Sort(ca)
		saysLint(t, "Ca", breaching(cleanCa(), picked...), ca)
	}
}

func TestLintOfNoneAndOfAsManyAsCanBe(t *testing.T) {
	for _, c := range cleanOnes() {
		saysLint(t, "none", c, nil)
		for _, key := range houseKeys() {
			breaksJust(t, "none but those of the key", changed(c, func(c *impl.Cert) { c.Key = key }), 1, false)
		}
	}
	saysLint(t, "as many as can be", breaching(cleanLeaf(), leafRules()...), leafRules())
	ca := changed(breaching(cleanCa(), 6, 7, 8, 9, 11, 13, 15), func(c *impl.Cert) { c.Exts.Usage = 5 })
	saysLint(t, "as many as can be with Ca", ca, []int{2, 4, 6, 7, 8, 9, 11, 13, 15})
	bare := changed(breaching(cleanLeaf(), 3, 5, 6, 7, 10, 11, 12, 14), func(c *impl.Cert) { c.Exts.Hosts, c.Exts.Nets = nil, nil })
	saysLint(t, "as many as can be without hosts", bare, []int{1, 3, 5, 6, 7, 10, 11, 12, 14})
	for _, c := range []impl.Cert{plainCert(), fullCert(), smallCert(), greatestCert()} {
		saysLint(t, "as it is", c, brokenBy(c))
	}
}

func TestHowManyRulesThereAre(t *testing.T) {
	if impl.Rules != rulesMost {
		t.Errorf("Rules is %d", impl.Rules)
	}
}

// Counts are the sums of what Lint tells of each; the worst is the first of those that break most.
func TestListsByAndLarge(t *testing.T) {
	s, keys := turn(702), houseKeys()
	seen := tally{}
	for i := range 600 {
		list := []impl.Cert{}
		for range s.below(lintMost + 3) {
			list = append(list, s.someHouseCert(keys))
		}
		if s.below(4) == 0 && len(list) > 0 {
			list[s.below(len(list))].Serial = 0
		}
		saysList(t, fmt.Sprintf("list %d", i), list)
		_, ok := impl.Counts(list)
		seen.count(ok)
	}
	seen.enough(t, 100)
}
