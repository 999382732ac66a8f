package tests

import (
	"fmt"
	"slices"
	"testing"

	"loop.example/g00148/impl"
)

func TestPoolsOfEachSize(t *testing.T) {
	p := parties(2)
	leaf, between, root := issuedLeaf(p[0]), issued(p[0], p[1]), issued(p[1], p[1])
	for pool := range poolMost + 3 {
		for anchors := range anchorsMost + 3 {
			h := hall{leaf, slices.Repeat([]impl.Cert{between}, pool), slices.Repeat([]impl.Cert{root}, anchors)}
			what := fmt.Sprintf("%d and %d", pool, anchors)
			if pool > poolMost || anchors > anchorsMost {
				refusesHall(t, what, h)
				continue
			}
			want := [][]int{}
			for at := range pool {
				for anchor := range anchors {
					want = append(want, []int{at, anchor})
				}
			}
			saysPaths(t, what, h, want...)
			saysVerified(t, what, h, pool+pool*anchors)
			if len(want) > 0 {
				saysBest(t, what, h, chainNow, 0, []int{0, 0}, 0)
			} else {
				saysBest(t, what, h, chainNow, 0, nil, 2)
			}
		}
	}
}

func TestNoPoolAndNoAnchors(t *testing.T) {
	p := parties(2)
	leaf, between, root := issuedLeaf(p[0]), issued(p[0], p[1]), issued(p[0], p[0])
	for _, none := range [][]impl.Cert{nil, {}, slices.Repeat([]impl.Cert{root}, 4)[:0]} {
		saysPaths(t, "no pool", hall{leaf, none, []impl.Cert{between, root, between}}, []int{0}, []int{1}, []int{2})
		saysPaths(t, "no anchors", hall{leaf, []impl.Cert{between, root}, none})
		saysPaths(t, "neither", hall{leaf, none, none})
		saysVerified(t, "no pool", hall{leaf, none, []impl.Cert{between, root, between}}, 3)
		saysVerified(t, "no anchors", hall{leaf, []impl.Cert{between, root}, none}, 3)
		saysVerified(t, "neither", hall{leaf, none, none}, 0)
		saysBest(t, "no pool", hall{leaf, none, []impl.Cert{between, root}}, chainNow, 0, []int{0}, 0)
		saysBest(t, "no anchors", hall{leaf, []impl.Cert{between, root}, none}, chainNow, 0, nil, 2)
		refusesChainOf(t, "no anchors", hall{leaf, []impl.Cert{between, root}, none}, []int{0})
		refusesChainOf(t, "no anchors", hall{leaf, []impl.Cert{between, root}, none}, []int{0, 0})
		refusesChainOf(t, "no pool", hall{leaf, none, []impl.Cert{root}}, []int{0, 0})
		saysChainOf(t, "no pool", hall{leaf, none, []impl.Cert{root}}, []int{0}, []impl.Cert{leaf, root})
	}
}

// One that is not CertOk refuses all, also where no path would go by it.
func TestHallsWithOneThatIsNotOk(t *testing.T) {
	h := row(3)
	h.pool = append(h.pool, quickLinks(1).chain[0], fullCert())
	h.anchors = append(h.anchors, plainCert(), h.anchors[0])
	saysPaths(t, "as it is", h, []int{0, 1, 2, 0}, []int{0, 1, 2, 2})
	for at := range h.all() {
		for _, wrongs := range []map[string]func(c *impl.Cert){wrongCerts(), unsignableCerts()} {
			for what, wrong := range wrongs {
				refusesHall(t, fmt.Sprintf("%s at %d", what, at), h.with(at, wrong))
			}
		}
	}
	refusesHall(t, "nothing", hall{})
	refusesHall(t, "no leaf", hall{impl.Cert{}, h.pool, h.anchors})
}

// Between leaf and anchor stand at most four.
func TestPathsOfEachLength(t *testing.T) {
	for between := range poolMost + 1 {
		h := row(between)
		what := fmt.Sprintf("%d between", between)
		places := []int{}
		for at := range between {
			places = append(places, at)
		}
		saysVerified(t, what, h, between+1)
		if between > betweenMost {
			saysPaths(t, what, h)
			saysBest(t, what, h, chainNow, 0, nil, 2)
			continue
		}
		path := append(places, 0)
		saysPaths(t, what, h, path)
		saysBest(t, what, h, chainNow, 0, path, 0)
		if chain, ok := impl.ChainOf(h.leaf, h.pool, h.anchors, path); !ok || len(chain) != between+2 {
			t.Errorf("%s: a chain of %d", what, len(chain))
		}
	}
}

// A row of five with a shorter way past one of them: only that is short enough.
func TestALongWayAndAShortOne(t *testing.T) {
	p := parties(6)
	h := row(5)
	saysPaths(t, "too long", h)
	h.pool = append(h.pool, issued(p[2], p[4]))
	saysPaths(t, "with a shorter way", h, []int{0, 1, 5, 4, 0})
	saysBest(t, "with a shorter way", h, chainNow, 0, []int{0, 1, 5, 4, 0}, 0)
	h.anchors = append(h.anchors, issued(p[1], p[1]))
	saysPaths(t, "with another anchor", h, []int{0, 1, 5, 4, 0}, []int{0, 1})
}

// Where the numbers are the same ones, the anchor counts for MaxPool more.
func TestAnchorsStandBehindThePool(t *testing.T) {
	p := parties(2)
	who := p[1]
	leaf, own := issuedLeaf(who), issued(who, who)
	cert := func(times int) []impl.Cert { return slices.Repeat([]impl.Cert{own}, times) }
	saysPaths(t, "one and one", hall{leaf, cert(1), cert(1)}, []int{0, 0}, []int{0})
	saysPaths(t, "one and two", hall{leaf, cert(1), cert(2)}, []int{0, 0}, []int{0, 1}, []int{0}, []int{1})
	saysPaths(t, "two and one", hall{leaf, cert(2), cert(1)}, []int{0, 1, 0}, []int{0, 0}, []int{1, 0, 0}, []int{1, 0}, []int{0})
	last := slices.Repeat([]impl.Cert{issued(p[0], p[0])}, poolMost)
	last[poolMost-1] = own
	saysPaths(t, "the last place", hall{leaf, last, cert(2)}, []int{7, 0}, []int{7, 1}, []int{0}, []int{1})
	saysBest(t, "the last place", hall{leaf, last, cert(2)}, chainNow, 0, []int{7, 0}, 0)
}

// One that issues itself in all places has as many paths as there are lists of places.
func TestMorePathsThanAreTold(t *testing.T) {
	totals := []int{1, 2, 5, 16, 65, 206, 517, 1100, 2081}
	for _, by := range quickSigners() {
		for pool, total := range totals {
			for anchors := range anchorsMost + 1 {
				h := ownHall(by, pool, anchors)
				what := fmt.Sprintf("%d and %d", pool, anchors)
				paths := h.allPaths()
				if len(paths) != total*anchors {
					t.Fatalf("%s: the reckoning has %d paths", what, len(paths))
				}
				saysPaths(t, what, h, firstOf(paths)...)
				saysVerified(t, what, h, pool*pool+(pool+1)*anchors)
			}
		}
	}
}

func TestFirstOfTooManyPathsByHand(t *testing.T) {
	h := ownHall(quickSigners()[0], poolMost, anchorsMost)
	full, ok := impl.Paths(h.leaf, h.pool, h.anchors)
	if !ok || len(full) != pathsMost {
		t.Fatalf("%d paths", len(full))
	}
	for at, want := range map[int][]int{0: {0, 1, 2, 3, 0}, 3: {0, 1, 2, 3, 3}, 4: {0, 1, 2, 4, 0}, 19: {0, 1, 2, 7, 3}, 20: {0, 1, 2, 0}, 23: {0, 1, 2, 3}, 24: {0, 1, 3, 2, 0}, 59: {0, 1, 4, 5, 3}} {
		sameList(t, fmt.Sprintf("path %d", at), full[at], want)
	}
}

// hallWith is made by chance of parties that issue each other, until it has just so many paths.
func hallWith(t *testing.T, total int) hall {
	t.Helper()
	s := turn(511 + total)
	for range 20000 {
		many := 2 + s.below(3)
		pool, anchors := 4+s.below(poolMost-3), 1+s.below(anchorsMost)
		whos, issuers := []int{0}, []int{s.below(many)}
		for range pool + anchors {
			whos, issuers = append(whos, s.below(many)), append(issuers, s.below(many))
		}
		vouches := [][]bool{}
		for _, who := range whos {
			line := []bool{}
			for _, issuer := range issuers {
				line = append(line, who == issuer)
			}
			vouches = append(vouches, line)
		}
		if len(pathsBy(vouches, pool, anchors)) == total {
			return hallOf(whos, issuers, pool)
		}
	}
	t.Fatalf("no hall of %d paths", total)
	return hall{}
}

func hallOf(whos []int, issuers []int, pool int) hall {
	p := parties(5)
	all := []impl.Cert{}
	for i, who := range whos {
		all = append(all, issued(p[who], p[issuers[i]]))
	}
	return hall{all[0], all[1 : 1+pool], all[1+pool:]}
}

func TestAboutAsManyPathsAsAreTold(t *testing.T) {
	for total := pathsMost - 3; total <= pathsMost+4; total++ {
		h := hallWith(t, total)
		what := fmt.Sprintf("%d paths", total)
		paths := saysHall(t, what, h, chainNow, 0)
		if len(paths) != total {
			t.Fatalf("%s: the reckoning has %d", what, len(paths))
		}
		got, ok := impl.Paths(h.leaf, h.pool, h.anchors)
		if !ok || len(got) != min(total, pathsMost) {
			t.Errorf("%s: %d are told", what, len(got))
		}
		pathsStand(t, what, h, chainNow, 0)
	}
}

// chainHall has certificates that are all unlike, so that a chain tells whose it is.
func chainHall() hall {
	p := parties(3)
	h := hall{leaf: issuedLeaf(p[0])}
	for at := range poolMost {
		h.pool = append(h.pool, issued(p[at%2], p[at%3], func(c *impl.Cert) {
			c.Serial, c.Exts = 1000+at, fullCert().Exts
		}))
	}
	for at := range anchorsMost {
		h.anchors = append(h.anchors, issued(p[2], p[2], func(c *impl.Cert) { c.Serial = 2000 + at }))
	}
	return h
}

// Each list of places has its chain, path or not; a place may stand twice.
func TestChainOfEachList(t *testing.T) {
	h := chainHall()
	for anchor := range h.anchors {
		saysChainOf(t, "the anchor alone", h, []int{anchor}, []impl.Cert{h.leaf, h.anchors[anchor]})
		for a := range h.pool {
			saysChainOf(t, "one between", h, []int{a, anchor}, []impl.Cert{h.leaf, h.pool[a], h.anchors[anchor]})
			for b := range h.pool {
				saysChainOf(t, "two between", h, []int{a, b, anchor}, []impl.Cert{h.leaf, h.pool[a], h.pool[b], h.anchors[anchor]})
				saysChainOf(t, "four between", h, []int{a, b, b, a, anchor}, []impl.Cert{h.leaf, h.pool[a], h.pool[b], h.pool[b], h.pool[a], h.anchors[anchor]})
			}
		}
	}
	s := turn(512)
	for range 300 {
		path := []int{}
		for range s.below(betweenMost + 1) {
			path = append(path, s.below(poolMost))
		}
		path = append(path, s.below(anchorsMost))
		saysChainOf(t, "some", h, path, h.chainOf(path))
	}
}

// A chain is told whether it is linked or not.
func TestChainOfWhatIsNoPath(t *testing.T) {
	h := row(3)
	saysPaths(t, "as it is", h, []int{0, 1, 2, 0})
	for _, path := range [][]int{{0}, {0, 0}, {2, 1, 0, 0}, {0, 1, 0}, {1, 1, 1, 1, 0}, {2, 2, 0}} {
		saysChainOf(t, "no path", h, path, h.chainOf(path))
	}
	h.leaf, h.pool, h.anchors = plainCert(), []impl.Cert{fullCert()}, []impl.Cert{plainCert()}
	saysChainOf(t, "who have nothing to do with each other", h, []int{0, 0, 0}, []impl.Cert{plainCert(), fullCert(), fullCert(), plainCert()})
}

func TestChainOfListsOfEachLength(t *testing.T) {
	h := chainHall()
	for size := range 20 {
		path := make([]int, size)
		if within(size, 1, chainMost-1) {
			saysChainOf(t, "noughts", h, path, h.chainOf(path))
		} else {
			refusesChainOf(t, "noughts", h, path)
		}
	}
	refusesChainOf(t, "nil", h, nil)
	refusesChainOf(t, "a path and one more", h, []int{0, 1, 2, 3, 4, 0})
}

func TestChainOfNumbersThatAreNoPlaces(t *testing.T) {
	full := chainHall()
	for pool := range poolMost + 1 {
		for anchors := range anchorsMost + 1 {
			h := hall{full.leaf, full.pool[:pool], full.anchors[:anchors]}
			for _, n := range append(farOff(), -2, -8, -9, 0, pool-1, pool, pool+1, anchors-1, anchors, anchors+1, poolMost, poolMost+anchors, poolMost+anchors-1, 1<<32, 1<<32+1) {
				numberAtEachPlace(t, h, n)
			}
		}
	}
}

// numberAtEachPlace puts one number into lists of places that are there, where there are any.
func numberAtEachPlace(t *testing.T, h hall, n int) {
	t.Helper()
	for size := 1; size < chainMost; size++ {
		for at := range size {
			path := make([]int, size)
			path[at] = n
			what := fmt.Sprintf("%d at %d of %d, with %d and %d", n, at, size, len(h.pool), len(h.anchors))
			right := within(path[size-1], 0, len(h.anchors)-1)
			for _, place := range path[:size-1] {
				right = right && within(place, 0, len(h.pool)-1)
			}
			if right {
				saysChainOf(t, what, h, path, h.chainOf(path))
			} else {
				refusesChainOf(t, what, h, path)
			}
		}
	}
}
