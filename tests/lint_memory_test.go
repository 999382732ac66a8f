package tests

import (
	"fmt"
	"runtime"
	"slices"
	"sync"
	"testing"

	"loop.example/g00148/impl"
)

// lintLists are right ones, and some with wrong ones among them.
func lintLists() [][]impl.Cert {
	s, keys := turn(721), houseKeys()
	lists := [][]impl.Cert{nil, {}, {impl.Cert{}}, cleanOnes(), memoryCerts()[:lintMost], slices.Repeat(cleanOnes(), lintMost), {breaching(cleanLeaf(), leafRules()...), greatestCert()}}
	for range 40 {
		list := []impl.Cert{}
		for range 1 + s.below(lintMost) {
			list = append(list, s.someHouseCert(keys))
		}
		lists = append(lists, list)
	}
	return lists
}

// lintAnswers are those of each function about a list, one number behind the other.
func lintAnswers(list []impl.Cert, except []int) []int {
	place, many := impl.Worst(list)
	counts, ok := impl.Counts(list)
	answers := append([]int{place, many, int(flag(ok))}, counts...)
	for _, c := range list {
		broken, ok := impl.Lint(c)
		answers = append(answers, int(flag(ok)), int(flag(impl.Clean(c, except))), len(broken))
		answers = append(answers, broken...)
	}
	return answers
}

func TestLintStandsAlone(t *testing.T) {
	room := []impl.Cert{breaching(cleanLeaf(), leafRules()...), {}, fullCert()}
	for i, list := range lintLists() {
		for _, except := range [][]int{nil, {1, 5, 6, 7, 11}, counted(1, rulesMost)} {
			what := fmt.Sprintf("list %d", i)
			want := lintAnswers(slices.Clip(slices.Clone(list)), slices.Clip(slices.Clone(except)))
			g := guardChain(list, room)
			for _, mark := range []int{0, 1, 3, 15} {
				e := guard(except, mark)
				sameList(t, what+" with spare room", lintAnswers(g.chain, e.list), want)
				if g.touched() || e.touched() {
					t.Errorf("%s or what is excepted was written into", what)
				}
			}
		}
	}
}

// A change of an answer changes no later answer, and no other one that was given.
func TestLintAnswersStandAlone(t *testing.T) {
	for i, list := range lintLists() {
		what := fmt.Sprintf("list %d", i)
		g := guardChain(list, nil)
		counts, _ := impl.Counts(g.chain)
		wantCounts := slices.Clone(counts)
		again, _ := impl.Counts(g.chain)
		spoil(again, spoilMark)
		sameList(t, what+": Counts", counts, wantCounts)
		for _, c := range g.chain {
			broken, _ := impl.Lint(c)
			want := slices.Clone(broken)
			other, _ := impl.Lint(c)
			spoil(other, spoilMark)
			sameList(t, what+": Lint", broken, want)
			later, _ := impl.Lint(c)
			sameList(t, what+": Lint later", later, want)
		}
		later, _ := impl.Counts(g.chain)
		sameList(t, what+": Counts later", later, wantCounts)
		if g.touched() {
			t.Errorf("%s shares memory with an answer", what)
		}
	}
}

// A change behind a call changes no answer that was given, and is seen by the next call.
func TestLintKeepsNothing(t *testing.T) {
	c := changed(cleanLeaf(), func(c *impl.Cert) {
		c.Exts.Hosts, c.Exts.Nets = []string{"*.b.a.org", "a.org"}, [][]int{{9, 0, 0, 1}, {9, 0, 0, 2}}
	})
	for _, row := range []struct {
		change func()
		want   []int
	}{
		{func() { c.Exts.Hosts[0] = "*.a.org" }, []int{8}}, {func() { c.Exts.Hosts[1] = "*.a.org" }, []int{8, 9}}, {func() { c.Exts.Hosts[0], c.Exts.Hosts[1] = "xn--0.org", "a.org" }, []int{13}}, {func() { c.Exts.Hosts[0] = "b.org" }, nil},
		{func() { c.Exts.Nets[0][0] = 10 }, []int{15}}, {func() { c.Exts.Nets[0] = c.Exts.Nets[1] }, []int{9}}, {func() { c.Exts.Nets[0] = []int{1, 2, 3, 4} }, nil},
		{func() { c.Subject[0] = "HALL" }, []int{12}}, {func() { c.Exts.Purposes[0] = 0 }, nil}, {func() { c.Exts.Purposes[0], c.Exts.Purposes[1] = 2, 3 }, []int{12, 14}}, {func() { c.Subject[0] = "gate" }, []int{14}},
	} {
		was, _ := impl.Lint(c)
		before := slices.Clone(was)
		row.change()
		sameList(t, "an answer given earlier", was, before)
		if len(certFaults(c)) > 0 {
			refusesLint(t, "now wrong", c)
		} else {
			saysLint(t, "changed", c, row.want)
		}
	}
	except := []int{14, 3}
	saysClean(t, "excepted", c, except, true)
	except[0] = 13
	saysClean(t, "no longer excepted", c, except, false)
}

// What was asked ahead does not count.
func TestLintInAnyOrder(t *testing.T) {
	list := append(lintLists()[6], cleanOnes()...)
	list = append(list, impl.Cert{}, breaching(cleanLeaf(), 9), breaching(cleanLeaf(), 15))
	alone := [][]int{}
	for _, c := range list {
		alone = append(alone, lintAnswers([]impl.Cert{c}, []int{9}))
	}
	for i := range list {
		for j := range list {
			impl.Worst([]impl.Cert{list[i], list[j]})
			sameList(t, fmt.Sprintf("%d behind %d", j, i), lintAnswers([]impl.Cert{list[j]}, []int{9}), alone[j])
		}
	}
}

// Several calls at one time answer as one does, and no goroutine is left behind.
func TestLintSideBySide(t *testing.T) {
	was := runtime.NumGoroutine()
	list := slices.Repeat([]impl.Cert{breaching(cleanLeaf(), leafRules()...), cleanCa(), cleanLeaf(), breaching(cleanCa(), 6, 9)}, lintMost/4)
	want := lintAnswers(list, []int{3})
	var all sync.WaitGroup
	for range 16 {
		all.Go(func() {
			for range 40 {
				sameList(t, "side by side", lintAnswers(list, []int{3}), want)
				refusesLint(t, "side by side", impl.Cert{})
			}
		})
	}
	all.Wait()
	if !settled(was) {
		t.Errorf("%d goroutines, at first %d", runtime.NumGoroutine(), was)
	}
}

func TestLintEndsSoon(t *testing.T) {
	for what, c := range longCerts() {
		endsSoon(t, what, func() { refusesLint(t, "a long "+what, c) })
		endsSoon(t, what, func() { saysWorst(t, "long ones", slices.Repeat([]impl.Cert{c}, lintMost), -1, 0) })
	}
	great := slices.Repeat([]impl.Cert{greatestCert()}, lintMost)
	endsSoon(t, "the greatest", func() { saysList(t, "the greatest", great) })
	for _, key := range houseKeys() {
		list := slices.Repeat([]impl.Cert{changed(breaching(cleanLeaf(), leafRules()...), func(c *impl.Cert) { c.Key = key })}, lintMost)
		endsSoon(t, "all broken", func() { saysList(t, "all broken", list) })
	}
	many := slices.Repeat([]impl.Cert{cleanLeaf()}, 1<<16)
	endsSoon(t, "many", func() { saysWorst(t, "many", many, -1, 0) })
	endsSoon(t, "many", func() { refusesCounts(t, "many", many) })
	long := slices.Repeat([]int{16, 0, -1}, 1<<22)
	worst := breaching(cleanLeaf(), leafRules()...)
	endsSoon(t, "a long list of what is excepted", func() { saysClean(t, "long", worst, append(long, leafRules()...), true) })
	endsSoon(t, "a long list of what is not broken", func() { saysClean(t, "long", worst, long, false) })
}
