package tests

import (
	"fmt"
	"slices"
	"testing"

	"loop.example/g00148/impl"
)

// brokenTurns are the changes that leave a chain linked.
func brokenTurns() []chainTurn {
	return slices.DeleteFunc(chainTurns(), func(turn chainTurn) bool { return turn.behind || turn.code == impl.ChainName })
}

// waysHall has for each change a way from the leaf to the anchor, by one of the pool that has that change.
func waysHall(changes ...func(c *impl.Cert)) hall {
	p := parties(3)
	h := hall{leaf: issuedLeaf(p[0]), anchors: []impl.Cert{issued(p[2], p[2])}}
	for _, change := range changes {
		h.pool = append(h.pool, issued(p[0], p[2], change))
	}
	return h
}

func noChange(*impl.Cert) {}

func toTime(c *impl.Cert)    { c.To = chainNow - 1 }
func toCa(c *impl.Cert)      { c.Exts.Ca = false }
func toUsage(c *impl.Cert)   { c.Exts.Usage = 5 }
func toAllow(c *impl.Cert)   { c.Exts.Deny = []string{"a.org"} }
func toPurpose(c *impl.Cert) { c.Exts.Purposes = []int{turnPurpose + 1} }

// someBreaks are changes of one between, and what is told of a chain with it.
func someBreaks() map[int]func(c *impl.Cert) {
	return map[int]func(c *impl.Cert){
		impl.ChainTime: toTime, impl.ChainCa: toCa, impl.ChainUsage: toUsage, impl.ChainAllow: toAllow, impl.ChainPurpose: toPurpose,
	}
}

func TestBestWithNoPath(t *testing.T) {
	p := parties(2)
	leaf, other := issuedLeaf(p[0]), issued(p[1], p[1])
	for what, h := range map[string]hall{
		"nobody": {leaf, nil, nil}, "no anchors": {leaf, []impl.Cert{issued(p[0], p[0])}, nil}, "another anchor": {leaf, nil, []impl.Cert{other}},
		"a way to nobody": {leaf, []impl.Cert{issued(p[0], p[0])}, []impl.Cert{other}}, "too long a way": row(betweenMost + 1),
		"out of its time": {issuedLeaf(p[0], toTime), nil, []impl.Cert{other}}, "an own leaf": {other, nil, nil},
	} {
		for _, purpose := range []int{0, 1, purposeMost} {
			saysBest(t, what, h, chainNow, purpose, nil, 2)
			saysBest(t, what, h, timeLeast, purpose, nil, 2)
			saysBest(t, what, h, timeMost, purpose, nil, 2)
		}
	}
}

// Where the first ones are broken, and one behind them is well.
func TestBestBehindOthers(t *testing.T) {
	for code, change := range someBreaks() {
		for ahead := range poolMost {
			changes := slices.Repeat([]func(c *impl.Cert){change}, poolMost)
			changes[ahead] = noChange
			h := waysHall(changes...)
			what := fmt.Sprintf("code %d, %d ahead", code, ahead)
			saysBest(t, what, h, chainNow, turnPurpose, []int{ahead, 0}, 0)
			h.pool = slices.Delete(h.pool, ahead, ahead+1)
			saysBest(t, what+", without it", h, chainNow, turnPurpose, nil, code)
		}
	}
}

// Two that are well: the first one, also where it is the longer one.
func TestBestIsTheFirst(t *testing.T) {
	saysBest(t, "both", waysHall(noChange, noChange), chainNow, turnPurpose, []int{0, 0}, 0)
	saysBest(t, "the last two", waysHall(toTime, toCa, noChange, toTime, noChange), chainNow, turnPurpose, []int{2, 0}, 0)
	p := parties(3)
	root := issued(p[2], p[2])
	long := hall{issuedLeaf(p[0]), []impl.Cert{issued(p[0], p[1]), issued(p[1], p[2]), issued(p[0], p[2])}, []impl.Cert{issued(p[0], p[0]), root}}
	saysPaths(t, "long and short", long, []int{0, 1, 1}, []int{2, 1}, []int{0})
	saysBest(t, "long and short", long, chainNow, 0, []int{0, 1, 1}, 0)
	long.pool[1] = issued(p[1], p[2], toTime)
	saysBest(t, "the long one broken", long, chainNow, 0, []int{2, 1}, 0)
	long.pool[2] = issued(p[0], p[2], toCa)
	saysBest(t, "both broken", long, chainNow, 0, []int{0}, 0)
	long.anchors[0] = issued(p[0], p[0], toUsage)
	saysBest(t, "all broken", long, chainNow, 0, nil, 4)
	long.pool[1] = issued(p[1], p[2], toCa)
	saysBest(t, "all broken, the first one otherwise", long, chainNow, 0, nil, 5)
}

// Where none is well, the first path of all tells the code: neither the least code nor the last one.
func TestBestOfBrokenOnes(t *testing.T) {
	breaks := someBreaks()
	for code, first := range breaks {
		for other, second := range breaks {
			h := waysHall(first, second, second)
			saysBest(t, fmt.Sprintf("%d ahead of %d", code, other), h, chainNow, turnPurpose, nil, code)
			h = waysHall(first, second, noChange)
			saysBest(t, fmt.Sprintf("%d ahead of %d, and one well", code, other), h, chainNow, turnPurpose, []int{2, 0}, 0)
		}
	}
}

// What is broken at the leaf or at the anchor is broken in each path by them.
func TestBestOfBrokenEnds(t *testing.T) {
	p := parties(2)
	for _, turn := range brokenTurns() {
		told := func(at int) int {
			if turn.told(at, 2) == notAsked {
				return 0
			}
			return turn.code
		}
		for at := range 3 {
			changes := [][]func(c *impl.Cert){nil, nil, nil}
			changes[at] = []func(c *impl.Cert){turn.change}
			h := hall{issuedLeaf(p[0], changes[0]...), []impl.Cert{issued(p[0], p[1], changes[1]...)}, []impl.Cert{issued(p[1], p[1], changes[2]...)}}
			want := []int{0, 0}
			if told(at) != 0 {
				want = nil
			}
			saysBest(t, fmt.Sprintf("%s at %d", turn.name, at), h, chainNow, turnPurpose, want, told(at))
		}
	}
}

// Another anchor may let pass what the first one does not.
func TestBestByAnotherAnchor(t *testing.T) {
	p := parties(1)
	anchors := []impl.Cert{}
	for _, change := range []func(c *impl.Cert){toTime, toUsage, toAllow, noChange} {
		anchors = append(anchors, issued(p[0], p[0], change))
	}
	for at := range anchors {
		h := hall{issuedLeaf(p[0]), nil, anchors[at:]}
		saysBest(t, "the last one", h, chainNow, turnPurpose, []int{anchorsMost - 1 - at}, 0)
		saysBest(t, "without the last one", hall{h.leaf, nil, anchors[:at]}, chainNow, turnPurpose, nil, []int{2, 4, 4, 4}[at])
	}
}

func TestBestAtNoTimeAndForNoPurpose(t *testing.T) {
	p := parties(1)
	always := func(c *impl.Cert) { c.From, c.To = timeLeast, timeMost }
	anchors := []impl.Cert{issued(p[0], p[0], always)}
	h := hall{issuedLeaf(p[0], always), nil, anchors}
	alone := hall{h.leaf, anchors, nil}
	broken := hall{h.leaf, nil, []impl.Cert{issued(p[0], p[0], toTime)}}
	for _, now := range append(farOff(), timeLeast-1, timeLeast, timeLeast+1, -1, 0, timeMost-1, timeMost, timeMost+1) {
		for _, purpose := range append(farOff(), -1, 0, 1, purposeMost, purposeMost+1) {
			if isOne(now) && within(purpose, 0, purposeMost) {
				saysBest(t, "right", h, now, purpose, []int{0}, 0)
				saysBest(t, "no path", alone, now, purpose, nil, 2)
				continue
			}
			saysBest(t, "not right", h, now, purpose, nil, 1)
			saysBest(t, "not right, and no path", alone, now, purpose, nil, 1)
			saysBest(t, "not right, and none well", broken, now, purpose, nil, 1)
		}
	}
}

// The best one is one of Paths: what is not told any more is not looked at.
func TestBestAmongTooMany(t *testing.T) {
	who := parties(1)[0]
	late := issued(who, who, toTime)
	well := issued(who, who)
	for at := range poolMost {
		pool := slices.Repeat([]impl.Cert{late}, poolMost)
		pool[at] = well
		h := hall{issuedLeaf(who), pool, []impl.Cert{well, well, well, well}}
		what := fmt.Sprintf("the one at %d", at)
		if all := h.allPaths(); len(all) <= pathsMost || !hasPath(all, []int{at, 0}) {
			t.Fatalf("%s: only %d paths", what, len(all))
		}
		if at == 0 {
			// Those with others behind stand ahead, and are broken by them: its own one is not told.
			saysBest(t, what, h, chainNow, 0, nil, 4)
		}
		saysHall(t, what, h, chainNow, 0)
	}
	few := hall{issuedLeaf(who), []impl.Cert{late, late, well}, []impl.Cert{well}}
	saysBest(t, "few", few, chainNow, 0, []int{2, 0}, 0)
	few.anchors = append(few.anchors, well, late)
	saysBest(t, "few", few, chainNow, 0, []int{2, 0}, 0)
}

func TestVerifiedByHand(t *testing.T) {
	p := parties(4)
	leaf := issuedLeaf(p[0])
	cert := func(who int, issuer int) impl.Cert { return issued(p[who], p[issuer]) }
	// named has the name of who, but signs otherwise.
	named := func(who int, issuer int) impl.Cert {
		return issued(party{p[who].name, p[(who+1)%4].by}, p[issuer])
	}
	list := func(all ...impl.Cert) []impl.Cert { return all }
	for what, c := range map[string]struct {
		h    hall
		want int
	}{
		"nobody":                                    {hall{leaf, nil, nil}, 0},
		"nobody of that name":                       {hall{leaf, list(cert(1, 2)), list(cert(2, 2))}, 0},
		"one come to":                               {hall{leaf, list(cert(0, 1)), nil}, 1},
		"one not come to":                           {hall{leaf, list(named(0, 1)), list(cert(1, 1))}, 1},
		"one come to, whose issuer is there":        {hall{leaf, list(cert(0, 1)), list(cert(1, 1))}, 2},
		"one behind one that is not come to":        {hall{leaf, list(named(0, 1), cert(1, 1)), nil}, 1},
		"one behind one that is come to":            {hall{leaf, list(cert(0, 1), cert(1, 2)), nil}, 2},
		"one that is named by one come to":          {hall{leaf, list(cert(0, 1), named(1, 2), cert(2, 2)), nil}, 2},
		"the first one come to by the last one":     {hall{leaf, list(cert(2, 3), cert(1, 2), cert(0, 1)), nil}, 3},
		"an own one":                                {hall{leaf, list(cert(0, 0)), nil}, 1},
		"an own one, trusted":                       {hall{leaf, list(cert(0, 0)), list(cert(0, 0))}, 3},
		"an own one that nobody comes to":           {hall{leaf, list(cert(1, 1)), list(cert(1, 1))}, 0},
		"an own one twice":                          {hall{leaf, list(cert(0, 0), cert(0, 0)), nil}, 4},
		"a ring":                                    {hall{leaf, list(cert(0, 1), cert(1, 0)), nil}, 3},
		"a ring that nobody comes to":               {hall{leaf, list(cert(1, 2), cert(2, 1)), nil}, 0},
		"a ring behind one":                         {hall{leaf, list(cert(0, 1), cert(1, 2), cert(2, 1)), nil}, 4},
		"anchors of the same name":                  {hall{leaf, nil, list(cert(0, 0), named(0, 1), cert(0, 2), named(0, 3))}, 4},
		"anchors of the same name, and one between": {hall{leaf, list(cert(0, 1)), list(cert(1, 1), named(1, 1), cert(1, 2), cert(0, 0))}, 5},
		"anchors do not lead on":                    {hall{leaf, list(cert(1, 1)), list(cert(0, 1))}, 1},
		"the leaf in the pool":                      {hall{leaf, list(leaf, cert(0, 1)), nil}, 1},
		"an own leaf":                               {hall{cert(0, 0), nil, nil}, 0},
		"an own leaf in the pool":                   {hall{cert(0, 0), list(cert(0, 0)), nil}, 1},
		"an own leaf, trusted":                      {hall{cert(0, 0), nil, list(cert(0, 0))}, 1},
	} {
		saysVerified(t, what, c.h, c.want)
		if reckoned := c.h.verifiedOf(); reckoned != c.want {
			t.Errorf("%s: the reckoning has %d, want %d", what, reckoned, c.want)
		}
	}
}

// Who is come to is not bound by how long a path may be.
func TestVerifiedBeyondPaths(t *testing.T) {
	h := row(poolMost)
	saysPaths(t, "too long", h)
	saysVerified(t, "too long", h, poolMost+1)
	for first := range poolMost {
		turned := h
		turned.pool = slices.Concat(h.pool[first:], h.pool[:first])
		saysVerified(t, "turned about", turned, poolMost+1)
		slices.Reverse(turned.pool)
		saysVerified(t, "turned about", turned, poolMost+1)
		cut := h.with(1+first, func(c *impl.Cert) { c.Sig = []byte{1} })
		saysVerified(t, "cut", cut, first+2)
	}
	for _, by := range quickSigners() {
		saysVerified(t, "all issue all", ownHall(by, poolMost, anchorsMost), 8+8*7+9*4)
	}
}
