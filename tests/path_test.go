package tests

import (
	"fmt"
	"slices"
	"testing"

	"loop.example/g00148/impl"
)

func TestPathConstants(t *testing.T) {
	sameList(t, "constants", []int{impl.MaxPool, impl.MaxAnchors, impl.MaxPaths}, []int{8, 4, 60})
}

// crowd are parties that issue each other by chance, and a rule of chains that they break more often than others.
type crowd struct {
	people []party
	broken chainTurn
}

// someCrowd has few names and few keys, so that some are named alike without signing alike, and the other way round.
func (s *turn) someCrowd(list []signer) crowd {
	many := 1 + s.below(5)
	by := []signer{}
	for range many {
		by = append(by, list[s.below(len(list))])
	}
	people := []party{}
	for i := range many {
		who := party{[]string{"Hall", fmt.Sprintf("Party %d", i)}, by[i]}
		if s.below(5) == 0 {
			who.name = []string{"Hall", fmt.Sprintf("Party %d", s.below(many))}
		}
		if s.below(8) == 0 {
			who.by = by[s.below(many)]
		}
		people = append(people, who)
	}
	turns := slices.DeleteFunc(chainTurns(), func(turn chainTurn) bool { return turn.code <= impl.ChainSig })
	return crowd{people, turns[s.below(len(turns))]}
}

// someIssued breaks rules of chains now and then; seldom it is not signed.
func (s *turn) someIssued(from crowd) impl.Cert {
	who, issuer := from.people[s.below(len(from.people))], from.people[s.below(len(from.people))]
	c := vouched(who, issuer)
	c.Serial += s.below(100)
	c.Exts.Hosts = []string{"x.a.org", "*.b.org"}[:s.below(3)]
	if s.below(3) == 0 {
		s.vary(&c)
	}
	if s.below(2) == 0 {
		from.broken.change(&c)
	}
	c = sealedBy(c, issuer.by)
	if s.below(12) == 0 {
		c.Sig[s.below(len(c.Sig))] ^= 1
	}
	return c
}

// someMore is a new one, or one that is there already: the leaf, an anchor, or one of the pool.
func (s *turn) someMore(h hall, from crowd) impl.Cert {
	if all := h.all(); s.below(5) == 0 {
		return all[s.below(len(all))]
	}
	return s.someIssued(from)
}

// someHall has sizes at their edges more often than chance has it.
func (s *turn) someHall(from crowd) hall {
	h := hall{leaf: s.someIssued(from)}
	for range min(s.below(6), anchorsMost) {
		h.anchors = append(h.anchors, s.someIssued(from))
	}
	for range min(s.below(12), poolMost) {
		h.pool = append(h.pool, s.someMore(h, from))
	}
	return h
}

// pathsStand holds what is promised of the paths against the program's own functions.
func pathsStand(t *testing.T, what string, h hall, now int, purpose int) {
	t.Helper()
	paths, _ := impl.Paths(h.leaf, h.pool, h.anchors)
	best, bestCode := impl.Best(h.leaf, h.pool, h.anchors, now, purpose)
	well := false
	for i, path := range paths {
		if i > 0 && comparePaths(paths[i-1], path) >= 0 {
			t.Errorf("%s: %v stands ahead of %v", what, paths[i-1], path)
		}
		chain, ok := impl.ChainOf(h.leaf, h.pool, h.anchors, path)
		if !ok || !sameChain(chain, h.chainOf(path)) {
			t.Errorf("%s: %v has no chain", what, path)
			continue
		}
		for at := range path {
			saysIssues(t, fmt.Sprintf("%s, %v, link %d", what, path, at), chain[at+1], chain[at], true)
		}
		code, _ := impl.CheckChain(chain, now, purpose)
		if code == impl.ChainWell && !well {
			well = true
			sameList(t, what+": the best one", best, path)
		}
	}
	if well != (bestCode == impl.ChainWell) || well != hasPath(paths, best) {
		t.Errorf("%s: Best is %v with code %d among %v", what, best, bestCode, paths)
	}
}

// hallTally counts what the halls had, so that a test can tell that it has seen all of it.
type hallTally struct {
	paths [3]int
	codes [10]int
}

func (c *hallTally) count(many int, code int) {
	c.codes[code]++
	switch {
	case many == 0:
		c.paths[0]++
	case many <= pathsMost:
		c.paths[1]++
	default:
		c.paths[2]++
	}
}

func (c *hallTally) enough(t *testing.T) {
	t.Helper()
	for kind, many := range c.paths {
		if many < 50 {
			t.Errorf("only %d halls of kind %d", many, kind)
		}
	}
	for code, many := range c.codes {
		if many < 2 && code != impl.ChainBad && code != impl.ChainSig {
			t.Errorf("only %d of code %d", many, code)
		}
	}
	// Who is in a path is linked: what is told of it is no fault of a link.
	if c.codes[impl.ChainSig] > 0 {
		t.Errorf("%d of ChainSig", c.codes[impl.ChainSig])
	}
}

func TestSomePaths(t *testing.T) {
	s := turn(501)
	list := allSigners()
	seen := hallTally{}
	for i := range 400 {
		h := s.someHall(s.someCrowd(list))
		now := chainNow + []int{0, 0, 0, 0, 0, 0, 0, 100, -100, 101}[s.below(10)]
		purpose := []int{0, 1, turnPurpose, turnPurpose, purposeMost}[s.below(5)]
		what := fmt.Sprintf("hall %d", i)
		paths := saysHall(t, what, h, now, purpose)
		pathsStand(t, what, h, now, purpose)
		_, code := h.bestOf(paths, now, purpose)
		seen.count(len(paths), code)
	}
	seen.enough(t)
}

// One more at the end of the pool takes no path away, and each path that comes with it goes by it.
func TestOneMoreAtTheEndOfThePool(t *testing.T) {
	s := turn(502)
	list := allSigners()
	many := 0
	for i := range 700 {
		from := s.someCrowd(list)
		h := s.someHall(from)
		if len(h.pool) == poolMost {
			continue
		}
		more := h
		more.pool = append(slices.Clone(h.pool), s.someMore(h, from))
		before, _ := impl.Paths(h.leaf, h.pool, h.anchors)
		after, ok := impl.Paths(more.leaf, more.pool, more.anchors)
		if total := len(more.allPaths()); !ok || total > pathsMost {
			continue
		}
		for _, path := range before {
			many++
			if !hasPath(after, path) {
				t.Errorf("hall %d: one more takes %v away", i, path)
			}
		}
		byIt := func(path []int) bool { return slices.Contains(path[:len(path)-1], len(h.pool)) }
		if old := slices.DeleteFunc(after, byIt); !samePaths(old, before) {
			t.Errorf("hall %d: %v became %v", i, before, old)
		}
	}
	if many < 500 {
		t.Errorf("only %d paths", many)
	}
}

// Where there are too many, those by one more that stands ahead of others may take the last ones' places, but never the order.
func TestOneMoreWhereThereAreTooMany(t *testing.T) {
	for pool := range poolMost {
		h, more := ownHall(quickSigners()[0], pool, anchorsMost), ownHall(quickSigners()[0], pool+1, anchorsMost)
		saysPaths(t, "as it was", h, firstOf(h.allPaths())...)
		saysPaths(t, "with one more", more, firstOf(more.allPaths())...)
	}
}

func TestPathsByHand(t *testing.T) {
	p := parties(5)
	root := issued(p[4], p[4])
	leaf := issuedLeaf(p[0])
	cert := func(who int, issuer int) impl.Cert { return issued(p[who], p[issuer]) }
	for what, c := range map[string]struct {
		h        hall
		verified int
		paths    [][]int
	}{
		"one between":            {hall{leaf, []impl.Cert{cert(0, 4)}, []impl.Cert{root}}, 2, [][]int{{0, 0}}},
		"the anchor itself":      {hall{issuedLeaf(p[4]), nil, []impl.Cert{root}}, 1, [][]int{{0}}},
		"two ways to one anchor": {hall{leaf, []impl.Cert{cert(0, 1), cert(0, 2), cert(1, 4), cert(2, 4)}, []impl.Cert{root}}, 6, [][]int{{0, 2, 0}, {1, 3, 0}}},
		"the lesser one later":   {hall{leaf, []impl.Cert{cert(1, 4), cert(0, 4), cert(0, 1)}, []impl.Cert{root}}, 5, [][]int{{1, 0}, {2, 0, 0}}},
		"a ring":                 {hall{leaf, []impl.Cert{cert(0, 1), cert(1, 2), cert(2, 0)}, []impl.Cert{root}}, 4, nil},
		"a ring with a way out":  {hall{leaf, []impl.Cert{cert(0, 1), cert(1, 0), cert(1, 4)}, []impl.Cert{root}}, 5, [][]int{{0, 2, 0}}},
		"an own one":             {hall{leaf, []impl.Cert{cert(0, 0), cert(0, 4)}, []impl.Cert{root}}, 4, [][]int{{0, 1, 0}, {1, 0}}},
		"twice in the pool":      {hall{leaf, []impl.Cert{cert(0, 4), cert(0, 4)}, []impl.Cert{root}}, 4, [][]int{{0, 0}, {1, 0}}},
		"an own one twice":       {hall{leaf, []impl.Cert{cert(0, 0), cert(0, 0)}, []impl.Cert{cert(0, 4)}}, 7, [][]int{{0, 1, 0}, {0, 0}, {1, 0, 0}, {1, 0}, {0}}},
		"the leaf in the pool":   {hall{leaf, []impl.Cert{leaf, cert(0, 4)}, []impl.Cert{root}}, 2, [][]int{{1, 0}}},
		"an own leaf there":      {hall{cert(4, 4), []impl.Cert{cert(4, 4)}, nil}, 1, nil},
		"an own leaf, trusted":   {hall{root, []impl.Cert{root}, []impl.Cert{root}}, 3, [][]int{{0, 0}, {0}}},
		"the anchor in the pool": {hall{leaf, []impl.Cert{root, cert(0, 4)}, []impl.Cert{root}}, 4, [][]int{{1, 0, 0}, {1, 0}}},
		"two anchors alike":      {hall{leaf, []impl.Cert{cert(0, 4)}, []impl.Cert{root, root}}, 3, [][]int{{0, 0}, {0, 1}}},
		"another anchor":         {hall{leaf, []impl.Cert{cert(0, 3)}, []impl.Cert{root}}, 1, nil},
		"nobody":                 {hall{leaf, nil, nil}, 0, nil},
		"an anchor between":      {hall{leaf, []impl.Cert{cert(1, 4)}, []impl.Cert{cert(0, 1), root}}, 1, [][]int{{0}}},
	} {
		saysPaths(t, what, c.h, c.paths...)
		saysVerified(t, what, c.h, c.verified)
		if all := saysHall(t, what, c.h, chainNow, turnPurpose); !samePaths(all, c.paths) {
			t.Errorf("%s: the reckoning has %v", what, all)
		}
		pathsStand(t, what, c.h, chainNow, turnPurpose)
	}
}

// Who is named as issuer but has another key, or signs but is named otherwise, is in no path.
func TestNamesAndKeysBothCount(t *testing.T) {
	list := quickSigners()
	for i, by := range list {
		issuer := party{[]string{"Hall", "issuer"}, by}
		leaf := issuedLeaf(issuer)
		right, otherKey, otherName := issuer, issuer, issuer
		otherKey.by = list[(i+1)%len(list)]
		otherName.name = []string{"Hall", "issuer", "x"}
		spelt := party{[]string{" HALL", "Issuer  "}, by}
		anchors := []impl.Cert{}
		for _, who := range []party{otherKey, right, otherName, spelt} {
			anchors = append(anchors, issued(who, who))
		}
		saysPaths(t, by.name, hall{leaf, nil, anchors}, []int{1}, []int{3})
		saysPaths(t, by.name, hall{leaf, anchors, nil})
		saysVerified(t, by.name, hall{leaf, nil, anchors}, 3)
		spoilt := leaf
		spoilt.Sig = slices.Concat(leaf.Sig[1:], leaf.Sig[:1])
		saysPaths(t, by.name+", not signed", hall{spoilt, anchors, anchors})
		saysVerified(t, by.name+", not signed", hall{spoilt, anchors, anchors}, 6)
	}
}

// A path asks of links alone: times, Ca and all other rules of chains are left to Best.
func TestPathsAskForLinksAlone(t *testing.T) {
	p := parties(2)
	for _, turn := range chainTurns() {
		if turn.behind || turn.code == impl.ChainName {
			continue
		}
		h := hall{issuedLeaf(p[0], turn.change), []impl.Cert{issued(p[0], p[1], turn.change)}, []impl.Cert{issued(p[1], p[1], turn.change)}}
		saysPaths(t, turn.name, h, []int{0, 0})
		saysVerified(t, turn.name, h, 2)
	}
}
