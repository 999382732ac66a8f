package tests

import (
	"fmt"
	"slices"
	"sync"
	"testing"

	"loop.example/g00148/impl"
)

const (
	poolMost    = 8
	anchorsMost = 4
	pathsMost   = 60
	betweenMost = 4
)

// hall is a leaf, and all who may vouch for it.
type hall struct {
	leaf    impl.Cert
	pool    []impl.Cert
	anchors []impl.Cert
}

// party is somebody who has a name, and signs.
type party struct {
	name []string
	by   signer
}

// allSigners are made once.
var allSigners = sync.OnceValue(signers)

// parties have names of their own and keys that take turns.
func parties(many int) []party {
	list, by := []party{}, quickSigners()
	for i := range many {
		list = append(list, party{[]string{"Hall", fmt.Sprintf("Party %d", i)}, by[i%len(by)]})
	}
	return list
}

// vouched is a certificate of who, not signed yet, which names the one that is to sign it.
func vouched(who party, issuer party) impl.Cert {
	return impl.Cert{
		Serial: 500, Subject: who.name, Issuer: issuer.name, From: chainNow - 100, To: chainNow + 100,
		Key: who.by.key, Exts: impl.Exts{Ca: true, Path: -1},
	}
}

// issued is one that issuer has signed, behind the changes.
func issued(who party, issuer party, changes ...func(c *impl.Cert)) impl.Cert {
	c := vouched(who, issuer)
	for _, change := range changes {
		change(&c)
	}
	return sealedBy(c, issuer.by)
}

// issuedLeaf has hosts, and may vouch for nobody.
func issuedLeaf(issuer party, changes ...func(c *impl.Cert)) impl.Cert {
	who := party{[]string{"Hall", "leaf"}, quickSigners()[2]}
	plain := func(c *impl.Cert) { c.Exts = impl.Exts{Path: -1, Hosts: []string{"x.a.org", "*.b.org"}} }
	return issued(who, issuer, append([]func(c *impl.Cert){plain}, changes...)...)
}

// row has a leaf that the first of the pool issues, which the second one issues, and so on; the anchor issues the last one.
func row(between int) hall {
	people := parties(between + 1)
	h := hall{leaf: issuedLeaf(people[0]), anchors: []impl.Cert{issued(people[between], people[between])}}
	for i := range between {
		h.pool = append(h.pool, issued(people[i], people[i+1]))
	}
	return h
}

// ownHall has one certificate everywhere, which issues itself.
func ownHall(by signer, pool int, anchors int) hall {
	who := party{[]string{"Hall", "own"}, by}
	own := issued(who, who)
	return hall{own, slices.Repeat([]impl.Cert{own}, pool), slices.Repeat([]impl.Cert{own}, anchors)}
}

// all are the leaf, the pool and the anchors.
func (h hall) all() []impl.Cert {
	return slices.Concat([]impl.Cert{h.leaf}, h.pool, h.anchors)
}

// with has a change of one of all, counted through; it writes into no list of the hall's.
func (h hall) with(at int, change func(c *impl.Cert)) hall {
	all := h.all()
	change(&all[at])
	return hall{all[0], all[1 : 1+len(h.pool)], all[1+len(h.pool):]}
}

func (h hall) isRight() bool {
	return len(h.pool) <= poolMost && len(h.anchors) <= anchorsMost &&
		!slices.ContainsFunc(h.all(), func(c impl.Cert) bool { return len(certFaults(c)) > 0 })
}

// chainOf is for a list of places that are there.
func (h hall) chainOf(path []int) []impl.Cert {
	chain, last := []impl.Cert{h.leaf}, len(path)-1
	for i, at := range path {
		if i < last {
			chain = append(chain, h.pool[at])
		} else {
			chain = append(chain, h.anchors[at])
		}
	}
	return chain
}

// vouches tells who of all issues whom, up first; reckoned apart from the program.
func (h hall) vouches() [][]bool {
	all := h.all()
	table := make([][]bool, len(all))
	for i, up := range all {
		for _, down := range all {
			table[i] = append(table[i], len(linkFaults(down, up, 0)) == 0)
		}
	}
	return table
}

// placeLists are all lists of at most betweenMost places below n, no two the same; the shorter ones first, so that they do not stand in the order of paths.
var placeLists = func() func(n int) [][]int {
	made := [poolMost + 1]func() [][]int{}
	for n := range made {
		made[n] = sync.OnceValue(func() [][]int {
			lists := [][]int{{}}
			for i := 0; i < len(lists); i++ {
				for at := range n {
					if len(lists[i]) < betweenMost && !slices.Contains(lists[i], at) {
						lists = append(lists, append(slices.Clone(lists[i]), at))
					}
				}
			}
			return lists
		})
	}
	return func(n int) [][]int { return made[n]() }
}()

// ranked has the anchor's number as it counts.
func ranked(path []int) []int {
	list := slices.Clone(path)
	list[len(list)-1] += poolMost
	return list
}

func comparePaths(a []int, b []int) int {
	return slices.Compare(ranked(a), ranked(b))
}

// allPaths are all, in order, however many: each list of places is held against who issues whom.
func (h hall) allPaths() [][]int {
	return pathsBy(h.vouches(), len(h.pool), len(h.anchors))
}

func pathsBy(vouches [][]bool, pool int, anchors int) [][]int {
	paths := [][]int{}
	for _, places := range placeLists(pool) {
		down, linked := 0, true
		for _, at := range places {
			linked, down = linked && vouches[1+at][down], 1+at
		}
		for at := range anchors {
			if linked && vouches[1+pool+at][down] {
				paths = append(paths, append(slices.Clone(places), at))
			}
		}
	}
	slices.SortFunc(paths, comparePaths)
	return paths
}

// firstOf are those that are told.
func firstOf(paths [][]int) [][]int {
	return paths[:min(len(paths), pathsMost)]
}

// bestOf is reckoned apart from the program, for a right hall.
func (h hall) bestOf(paths [][]int, now int, purpose int) ([]int, int) {
	if !isOne(now) || !within(purpose, 0, purposeMost) {
		return nil, 1
	}
	code := 2
	for i, path := range firstOf(paths) {
		fault := chainTold(h.chainOf(path), now, purpose)
		if fault.code == 0 {
			return path, 0
		}
		if i == 0 {
			code = fault.code
		}
	}
	return nil, code
}

// verifiedOf goes through the pool again and again, until nobody more is come to.
func (h hall) verifiedOf() int {
	all, vouches := h.all(), h.vouches()
	come := map[int]bool{0: true}
	for range h.pool {
		for up := 1; up <= len(h.pool); up++ {
			for down := range len(h.pool) + 1 {
				if come[down] && vouches[up][down] {
					come[up] = true
				}
			}
		}
	}
	many := 0
	for a := range come {
		for b := 1; b < len(all); b++ {
			if b != a && sameName(all[b].Subject, all[a].Issuer) {
				many++
			}
		}
	}
	return many
}

func samePaths(a [][]int, b [][]int) bool {
	return slices.EqualFunc(a, b, func(x []int, y []int) bool { return slices.Equal(x, y) })
}

func hasPath(paths [][]int, path []int) bool {
	return slices.ContainsFunc(paths, func(other []int) bool { return slices.Equal(path, other) })
}

func saysPaths(t *testing.T, what string, h hall, want ...[]int) {
	t.Helper()
	if got, ok := impl.Paths(h.leaf, h.pool, h.anchors); !ok || !samePaths(got, want) {
		t.Errorf("%s: Paths with %d and %d: got %v %v, want %v", what, len(h.pool), len(h.anchors), got, ok, want)
	}
}

func saysBest(t *testing.T, what string, h hall, now int, purpose int, want []int, code int) {
	t.Helper()
	if got, gotCode := impl.Best(h.leaf, h.pool, h.anchors, now, purpose); gotCode != code || !slices.Equal(got, want) {
		t.Errorf("%s: Best at %d for %d: got %v and code %d, want %v and %d", what, now, purpose, got, gotCode, want, code)
	}
}

func saysVerified(t *testing.T, what string, h hall, want int) {
	t.Helper()
	if got := impl.Verified(h.leaf, h.pool, h.anchors); got != want {
		t.Errorf("%s: Verified with %d and %d: got %d, want %d", what, len(h.pool), len(h.anchors), got, want)
	}
}

func sameChain(a []impl.Cert, b []impl.Cert) bool {
	return slices.EqualFunc(a, b, sameCert)
}

func saysChainOf(t *testing.T, what string, h hall, path []int, want []impl.Cert) {
	t.Helper()
	if got, ok := impl.ChainOf(h.leaf, h.pool, h.anchors, path); !ok || !sameChain(got, want) {
		t.Errorf("%s: ChainOf %v: got %d %v, want %d: %+v", what, path, len(got), ok, len(want), got)
	}
}

func refusesChainOf(t *testing.T, what string, h hall, path []int) {
	t.Helper()
	if got, ok := impl.ChainOf(h.leaf, h.pool, h.anchors, path); ok || len(got) != 0 {
		t.Errorf("%s: ChainOf %d numbers, with %d and %d: got %d of them and %v, want nothing", what, len(path), len(h.pool), len(h.anchors), len(got), ok)
	}
}

// refusesHall holds each function's answer for what is no leaf, no pool or no anchors.
func refusesHall(t *testing.T, what string, h hall) {
	t.Helper()
	got, ok := impl.Paths(h.leaf, h.pool, h.anchors)
	refused(t, what+": Paths", got, ok)
	for _, path := range [][]int{{0}, {0, 0}, {}, nil, {-1}} {
		refusesChainOf(t, what, h, path)
	}
	for _, now := range []int{chainNow, timeMost + 1} {
		saysBest(t, what, h, now, 0, nil, 1)
		saysBest(t, what, h, now, -1, nil, 1)
	}
	saysVerified(t, what, h, -1)
}

// saysHall holds all answers about a right hall against what is reckoned apart, and gives back all paths.
func saysHall(t *testing.T, what string, h hall, now int, purpose int) [][]int {
	t.Helper()
	if !h.isRight() {
		t.Fatalf("%s is not right", what)
	}
	paths := h.allPaths()
	saysPaths(t, what, h, firstOf(paths)...)
	best, code := h.bestOf(paths, now, purpose)
	saysBest(t, what, h, now, purpose, best, code)
	saysVerified(t, what, h, h.verifiedOf())
	return paths
}
