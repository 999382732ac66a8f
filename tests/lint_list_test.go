package tests

import (
	"fmt"
	"math"
	"slices"
	"testing"

	"loop.example/g00148/impl"
)

func TestRuleText(t *testing.T) {
	for n, want := range map[int]string{
		-1: "", 0: "", 1: "rule 1", 2: "rule 2", 7: "rule 7", 9: "rule 9", 10: "rule 10", 11: "rule 11", 13: "rule 13", impl.Rules: "rule 15", impl.Rules + 1: "", 99: "", -15: "",
		math.MaxInt: "", math.MinInt: "", 1 << 32: "", 1<<32 + 1: "", 1<<62 + 15: "", -1 << 32: "",
	} {
		if got := impl.RuleText(n); got != want {
			t.Errorf("RuleText(%d): got %q, want %q", n, got, want)
		}
	}
	for n := -300; n < 300; n++ {
		want := ""
		if n >= 1 && n <= rulesMost {
			want = fmt.Sprintf("rule %d", n)
		}
		if got := impl.RuleText(n); got != want {
			t.Errorf("RuleText(%d): got %q, want %q", n, got, want)
		}
	}
}

// noRules are numbers of none.
func noRules() []int {
	return append(farNumbers(), -15, -1, 0, 16, 17, 255+3, 256+3, 1<<32+3, math.MinInt+3)
}

func TestCleanByWhatIsExcepted(t *testing.T) {
	c := breaching(cleanLeaf(), 3, 9, 15)
	for what, row := range map[string]struct {
		except []int
		want   bool
	}{
		"nothing": {nil, false}, "an empty list": {[]int{}, false}, "just these": {[]int{3, 9, 15}, true}, "falling": {[]int{15, 9, 3}, true}, "mixed": {[]int{9, 15, 3}, true},
		"twice": {[]int{3, 3, 9, 9, 15, 15}, true}, "twice, far apart": {[]int{15, 9, 3, 9, 15}, true}, "one of them twice": {[]int{3, 3, 9}, false}, "others beside": {[]int{1, 3, 9, 12, 15}, true},
		"without the first": {[]int{9, 15}, false}, "without the last": {[]int{3, 9}, false}, "without the one between": {[]int{3, 15}, false}, "all but one": {slices.Delete(counted(1, rulesMost), 8, 9), false},
		"places": {[]int{2, 8, 14}, false}, "next ones": {[]int{4, 10, 16}, false}, "with a sign": {[]int{-3, -9, -15}, false}, "no rules": {noRules(), false}, "no rules ahead": {append(noRules(), 3, 9, 15), true},
		"no rules behind": {append([]int{3, 9, 15}, noRules()...), true}, "no rules between": {slices.Insert([]int{3, 9, 15}, 1, noRules()...), true},
	} {
		saysClean(t, what, c, row.except, row.want)
		for _, clean := range cleanOnes() {
			saysClean(t, what+" of one that breaks none", clean, row.except, true)
		}
		saysClean(t, what+" of none", impl.Cert{}, row.except, false)
	}
}

// Each set of rules excepted, of certificates that break some.
func TestCleanByEachSet(t *testing.T) {
	for _, rules := range [][]int{{}, {3}, {15}, {3, 5, 12}, {6, 7, 8, 9, 10, 11}, leafRules()} {
		c := breaching(cleanLeaf(), rules...)
		for n, except := range sets(rulesMost) {
			missing := slices.ContainsFunc(rules, func(rule int) bool { return n>>(rule-1)&1 == 0 })
			saysClean(t, "a set", c, except, !missing)
		}
	}
}

// wrongOnes are no right certificates, each for one reason; what they would break is more than none.
func wrongOnes() map[string]impl.Cert {
	list := map[string]impl.Cert{"zero": {}}
	for _, changes := range []map[string]func(c *impl.Cert){wrongCerts(), unsignableCerts()} {
		for what, change := range changes {
			list[what] = changed(breaching(cleanLeaf(), leafRules()...), change)
			list[what+" with Ca"] = changed(breaching(cleanCa(), leafRules()...), change)
		}
	}
	delete(list, "Path without Ca with Ca")
	return list
}

func TestLintOfWrongOnes(t *testing.T) {
	for what, c := range wrongOnes() {
		if len(certFaults(c)) == 0 {
			t.Errorf("%s is right", what)
		}
		refusesLint(t, what, c)
	}
}

func TestLintOfNumbersFarOff(t *testing.T) {
	for _, c := range append(cleanOnes(), plainCert(), greatestCert()) {
		for what, set := range numberFields() {
			for _, n := range veryFar() {
				refusesLint(t, what, changed(c, func(c *impl.Cert) { set(c, n) }))
			}
		}
	}
}

// Each size, up to more than can be.
func TestListsOfEachSize(t *testing.T) {
	none := make([]int, rulesMost)
	for _, list := range [][]impl.Cert{nil, {}} {
		saysWorst(t, "none", list, -1, 0)
		saysCounts(t, "none", list, none)
	}
	for size := 1; size <= lintMost+5; size++ {
		what := fmt.Sprintf("%d of them", size)
		clean, breaking := slices.Repeat(cleanOnes(), size)[:size], slices.Repeat([]impl.Cert{breaching(cleanLeaf(), 3, 15)}, size)
		saysList(t, what, clean)
		saysList(t, what, breaking)
		if size > lintMost {
			saysWorst(t, what, breaking, -1, 0)
			refusesCounts(t, what, breaking)
			continue
		}
		want := slices.Clone(none)
		want[2], want[14] = size, size
		saysWorst(t, what, clean, -1, 0)
		saysCounts(t, what, clean, none)
		saysWorst(t, what, breaking, 0, 2)
		saysCounts(t, what, breaking, want)
	}
}

// The worst one at each place, alone and with others that break as many behind it.
func TestWorstAtEachPlace(t *testing.T) {
	few, most := breaching(cleanLeaf(), 3), breaching(cleanLeaf(), leafRules()...)
	for _, size := range []int{1, 2, 3, lintMost - 1, lintMost} {
		for at := range size {
			for _, other := range []impl.Cert{cleanCa(), few, {}} {
				list := slices.Repeat([]impl.Cert{other}, size)
				list[at] = most
				saysWorst(t, "alone", list, at, len(leafRules()))
				saysList(t, "alone", list)
				for behind := at + 1; behind < size; behind++ {
					list[behind] = breaching(most)
					saysWorst(t, "with others", list, at, len(leafRules()))
				}
				saysList(t, "with others", list)
			}
		}
	}
}

// What rules are broken does not count for Worst, only how many.
func TestWorstByHowMany(t *testing.T) {
	two, other, three := breaching(cleanLeaf(), 3, 5), breaching(cleanLeaf(), 14, 15), breaching(cleanCa(), 5, 6, 7)
	saysWorst(t, "as many", []impl.Cert{two, other}, 0, 2)
	saysWorst(t, "as many", []impl.Cert{other, two}, 0, 2)
	saysWorst(t, "one more", []impl.Cert{two, other, three, other}, 2, 3)
	saysWorst(t, "one more ahead", []impl.Cert{three, two, other}, 0, 3)
	saysWorst(t, "one more twice", []impl.Cert{two, three, three}, 1, 3)
	saysWorst(t, "rising", []impl.Cert{cleanLeaf(), breaching(cleanLeaf(), 15), two, three}, 3, 3)
}

// One that is refused, first, in the middle and last.
func TestListsWithOneThatIsRefused(t *testing.T) {
	for what, wrong := range wrongOnes() {
		for _, size := range []int{1, 2, 3, lintMost} {
			for _, at := range []int{0, size / 2, size - 1} {
				list := slices.Repeat([]impl.Cert{breaching(cleanLeaf(), 3)}, size)
				list[at] = wrong
				saysList(t, what, list)
				refusesCounts(t, what, list)
			}
		}
	}
	two := []impl.Cert{{}, breaching(cleanLeaf(), 3, 5)}
	saysWorst(t, "one behind a refused one", two, 1, 2)
	saysWorst(t, "refused ones alone", slices.Repeat([]impl.Cert{{}}, lintMost), -1, 0)
	saysWorst(t, "refused ones and one that breaks none", []impl.Cert{{}, cleanLeaf(), {}}, -1, 0)
}

// Each rule is counted at its place.
func TestCountsByRule(t *testing.T) {
	for _, rule := range leafRules() {
		for many := 1; many <= 3; many++ {
			want := make([]int, rulesMost)
			want[rule-1] = many
			saysCounts(t, fmt.Sprintf("rule %d", rule), append(cleanOnes(), slices.Repeat([]impl.Cert{breaching(cleanLeaf(), rule)}, many)...), want)
		}
	}
	bare := changed(cleanLeaf(), func(c *impl.Cert) { c.Exts.Hosts, c.Exts.Nets = nil, nil })
	host := changed(cleanCa(), func(c *impl.Cert) { c.Exts.Hosts, c.Exts.Usage = []string{"a.org"}, 0 })
	saysCounts(t, "rules 1, 2 and 4", []impl.Cert{bare, host, host}, []int{1, 2, 0, 2, 0, 0, 0, 0, 0, 0, 0, 0, 0, 0, 0})
}
