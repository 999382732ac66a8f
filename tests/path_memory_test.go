package tests

import (
	"fmt"
	"slices"
	"testing"

	"loop.example/g00148/impl"
)

// guardedHall has spare room behind each of its lists, and a way to tell whether something was written into.
type guardedHall struct {
	hall
	touched func() bool
}

// guardHall has behind pool and anchors what would make paths, if it were read.
func guardHall(h hall) guardedHall {
	leaf := guardChain([]impl.Cert{h.leaf}, nil)
	pool, anchors := guardChain(h.pool, h.all()), guardChain(h.anchors, h.all())
	return guardedHall{hall{leaf.chain[0], pool.chain, anchors.chain}, func() bool {
		return leaf.touched() || pool.touched() || anchors.touched()
	}}
}

// memoryHalls are right and wrong ones.
func memoryHalls() []hall {
	s := turn(521)
	list := quickSigners()
	halls := []hall{{}, row(0), row(betweenMost), row(poolMost), row(poolMost + 1), chainHall(), ownHall(list[0], 2, 2), ownHall(list[1], poolMost, anchorsMost), waysHall(toTime, noChange), row(3).with(2, func(c *impl.Cert) { c.Serial = 0 })}
	for range 60 {
		halls = append(halls, s.someHall(s.someCrowd(list)))
	}
	return halls
}

// hallAnswers is all that is told of a hall.
type hallAnswers struct {
	paths    [][]int
	ok       bool
	chains   [][]impl.Cert
	best     []int
	code     int
	verified int
}

func answersOf(h hall) hallAnswers {
	a := hallAnswers{verified: impl.Verified(h.leaf, h.pool, h.anchors)}
	a.paths, a.ok = impl.Paths(h.leaf, h.pool, h.anchors)
	a.best, a.code = impl.Best(h.leaf, h.pool, h.anchors, chainNow, turnPurpose)
	for _, path := range slices.Concat(a.paths, [][]int{{0}, {0, 0}, {1, 1, 0}, {}}) {
		chain, _ := impl.ChainOf(h.leaf, h.pool, h.anchors, path)
		a.chains = append(a.chains, chain)
	}
	return a
}

func (a hallAnswers) same(b hallAnswers) bool {
	return samePaths(a.paths, b.paths) && a.ok == b.ok && slices.EqualFunc(a.chains, b.chains, sameChain) &&
		slices.Equal(a.best, b.best) && a.code == b.code && a.verified == b.verified
}

// spoilAll writes over all lists that were answered, with all their room.
func (a hallAnswers) spoilAll() {
	for _, path := range a.paths {
		spoil(path, spoilMark)
	}
	spoil(a.paths, []int{spoilMark})
	spoil(a.best, spoilMark)
	for _, chain := range a.chains {
		for _, c := range chain {
			for _, write := range spoils(c) {
				write()
			}
			spoil(c.Exts.Nets, []int{spoilMark})
		}
		spoil(chain, impl.Cert{Serial: spoilMark})
	}
}

func TestHallsStandAlone(t *testing.T) {
	for i, h := range memoryHalls() {
		what := fmt.Sprintf("hall %d", i)
		want := answersOf(h)
		g := guardHall(h)
		got := answersOf(g.hall)
		if !got.same(want) {
			t.Errorf("%s: spare room is read: %+v, want %+v", what, got, want)
		}
		got.spoilAll()
		if g.touched() {
			t.Errorf("%s was written into, or shares memory with an answer", what)
		}
		if again := answersOf(g.hall); !again.same(want) {
			t.Errorf("%s a second time: %+v, want %+v", what, again, want)
		}
	}
}

// A change of a hall behind a call changes no answer that was given.
func TestAnswersOfHallsStay(t *testing.T) {
	for i, h := range memoryHalls() {
		g := guardHall(h)
		got := answersOf(g.hall)
		for _, c := range g.all() {
			for _, write := range spoils(c) {
				write()
			}
			spoil(c.Exts.Nets, []int{spoilMark})
		}
		spoil(g.pool, impl.Cert{})
		spoil(g.anchors, impl.Cert{})
		if want := answersOf(h); !got.same(want) {
			t.Errorf("hall %d: after a change: %+v, want %+v", i, got, want)
		}
	}
}

// No two paths of one answer share memory.
func TestPathsShareNoMemory(t *testing.T) {
	for i, h := range memoryHalls() {
		want, _ := impl.Paths(h.leaf, h.pool, h.anchors)
		for at := range want {
			got, _ := impl.Paths(h.leaf, h.pool, h.anchors)
			spoil(got[at], spoilMark)
			got[at] = want[at]
			if !samePaths(got, want) {
				t.Errorf("hall %d: path %d shares memory with another one", i, at)
			}
		}
	}
}

// No two lists of one chain share memory, also where one place stands twice, or one certificate at all places.
func TestChainsOfPathsShareNoMemory(t *testing.T) {
	full := fullCert()
	full.Key, full.Exts.Nets = quickSigners()[0].key, slices.Repeat(full.Exts.Nets[:1], 3)
	for _, one := range []hall{chainHall(), {full, []impl.Cert{full, full}, []impl.Cert{full}}} {
		for _, path := range [][]int{{0}, {1, 0}, {1, 1, 0}, {0, 0, 0, 0, 0}, {0, 1, 0, 1, 0}} {
			want := one.chainOf(path)
			for at := range want {
				for list := range spoils(want[at]) {
					listStandsAlone(t, one, path, at, list)
				}
			}
			saysChainOf(t, "as it was", one, path, want)
		}
	}
}

// listStandsAlone writes over one list of one certificate of a chain, and looks that just this one has changed.
func listStandsAlone(t *testing.T, h hall, path []int, at int, list int) {
	t.Helper()
	changed, _ := impl.ChainOf(h.leaf, h.pool, h.anchors, path)
	want := h.chainOf(path)
	spoils(changed[at])[list]()
	for i, c := range changed {
		for other := range spoils(c) {
			if (i != at || other != list) && !slices.Equal(listText(c, other), listText(want[i], other)) {
				t.Errorf("%v: list %d of %d shares memory with list %d of %d", path, list, at, other, i)
			}
		}
	}
}

func TestChainOfKeepsNoList(t *testing.T) {
	h := chainHall()
	for _, path := range [][]int{nil, {}, {0}, {1, 2}, {7, 6, 5, 4, 3}, {0, 0, 0, 0, 0}, {8, 0}, {0, 4}, {-1}, {0, 1, 2, 3, 0, 0}} {
		want, wantOk := impl.ChainOf(h.leaf, h.pool, h.anchors, path)
		for _, mark := range []int{0, -1, roomMark} {
			g := guard(path, mark)
			got, ok := impl.ChainOf(h.leaf, h.pool, h.anchors, g.list)
			if ok != wantOk || !sameChain(got, want) || g.touched() {
				t.Errorf("ChainOf %v reads or writes spare room", path)
			}
			spoil(g.list, spoilMark)
			if !sameChain(got, want) {
				t.Errorf("ChainOf %v keeps its list", path)
			}
		}
	}
}

// What stands there at a call is what is told of, whatever stood there ahead of it.
func TestHallsAreNotKept(t *testing.T) {
	h := row(2)
	sig := h.pool[0].Sig
	for i := range sig {
		saysPaths(t, "at first", h, []int{0, 1, 0})
		sig[i] ^= 1
		saysPaths(t, "a byte turned in its list", h)
		saysBest(t, "a byte turned in its list", h, chainNow, 0, nil, 2)
		saysVerified(t, "a byte turned in its list", h, 2)
		sig[i] ^= 1
		saysBest(t, "and back", h, chainNow, 0, []int{0, 1, 0}, 0)
		saysVerified(t, "and back", h, 3)
	}
	h.pool[0], h.pool[1] = h.pool[1], h.pool[0]
	saysPaths(t, "changed about", h, []int{1, 0, 0})
	saysChainOf(t, "changed about", h, []int{0, 0}, []impl.Cert{h.leaf, h.pool[0], h.anchors[0]})
}

// Very great and very low numbers in each field of one of them.
func TestHallsOfNumbersFarOff(t *testing.T) {
	h := row(2)
	for what, set := range numberFields() {
		for _, n := range veryFar() {
			for at := range h.all() {
				refusesHall(t, fmt.Sprintf("%s at %d", what, at), h.with(at, func(c *impl.Cert) { set(c, n) }))
			}
		}
	}
}

// greatestHall has certificates of as many bytes as can be, which all issue each other.
func greatestHall(by signer) hall {
	own := sealedBy(greatestIssuer(by), by)
	return hall{own, slices.Repeat([]impl.Cert{own}, poolMost), slices.Repeat([]impl.Cert{own}, anchorsMost)}
}

func TestPathsEndSoon(t *testing.T) {
	s := turn(522)
	first := firstOf(ownHall(quickSigners()[0], poolMost, anchorsMost).allPaths())
	for _, by := range slices.Concat(s.rsaSigners(512, 65537), s.rsaSigners(512, 65535), quickSigners()) {
		h := greatestHall(by)
		endsSoon(t, by.name, func() { saysPaths(t, by.name, h, first...) })
		endsSoon(t, by.name, func() { saysBest(t, by.name, h, chainNow, purposeMost, []int{0, 1, 2, 3, 0}, 0) })
		endsSoon(t, by.name, func() { saysBest(t, by.name, h, chainNow, 1, nil, 9) })
		endsSoon(t, by.name, func() { saysVerified(t, by.name, h, 100) })
		path := []int{0, 1, 2, 3, 0}
		endsSoon(t, by.name, func() { saysChainOf(t, by.name, h, path, h.chainOf(path)) })
		// Anchors that have the name but not the key end no search early.
		other := h.anchors[0]
		other.Key = plainCert().Key
		h.anchors = slices.Repeat([]impl.Cert{other}, anchorsMost)
		endsSoon(t, by.name, func() { saysPaths(t, by.name+", no way out", h) })
		endsSoon(t, by.name, func() { saysBest(t, by.name+", no way out", h, chainNow, 0, nil, 2) })
		endsSoon(t, by.name, func() { saysVerified(t, by.name+", no way out", h, 100) })
	}
}

func TestLongHallsEndSoon(t *testing.T) {
	h := row(2)
	many := slices.Repeat(h.pool, 1<<16)
	endsSoon(t, "a long pool", func() { refusesHall(t, "a long pool", hall{h.leaf, many, h.anchors}) })
	endsSoon(t, "many anchors", func() { refusesHall(t, "many anchors", hall{h.leaf, h.pool, many}) })
	long := make([]int, 1<<24)
	endsSoon(t, "a long path", func() { refusesChainOf(t, "a long path", h, long) })
	for what, c := range longCerts() {
		for at := range h.all() {
			endsSoon(t, what, func() { refusesHall(t, what, h.with(at, func(one *impl.Cert) { *one = c })) })
		}
	}
}
