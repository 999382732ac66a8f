package tests

import (
	"fmt"
	"math"
	"reflect"
	"slices"
	"strings"
	"testing"

	"loop.example/g00148/impl"
)

// guardedChain is a chain of guarded certificates, with spare room behind, and a way to tell whether something was written into.
type guardedChain struct {
	chain   []impl.Cert
	touched func() bool
}

func guardChain(chain []impl.Cert, room []impl.Cert) guardedChain {
	checks := []func() bool{}
	all := []impl.Cert{}
	for _, c := range slices.Concat(chain, room) {
		g := guardCert(c)
		all, checks = append(all, g.cert), append(checks, g.touched)
	}
	was := slices.Clone(all)
	return guardedChain{all[:len(chain)], func() bool {
		return !reflect.DeepEqual(all, was) || slices.ContainsFunc(checks, func(check func() bool) bool { return check() })
	}}
}

// memoryChains are right and wrong ones.
func memoryChains() [][]impl.Cert {
	s := turn(411)
	list, turns := quickSigners(), chainTurns()
	chains := [][]impl.Cert{nil, {}, {impl.Cert{}}, {fullCert()}, quickLinks(chainMost).chain, quickLinks(chainMost + 1).chain, quickLinks(2).spoiltAt(1, func(c *impl.Cert) { c.Serial = 0 })}
	for range 150 {
		chains = append(chains, s.someTurned(list, turns))
	}
	return chains
}

// answers are those of each function about a chain.
func answers(chain []impl.Cert) []int {
	list := []int{impl.Depth(chain)}
	for _, now := range []int{chainNow, chainNow + 101, timeMost + 1} {
		code, at := impl.CheckChain(chain, now, turnPurpose)
		list = append(list, code, at)
	}
	for i, c := range chain {
		list = append(list, int(flag(impl.OwnIssuer(c))), int(flag(impl.AllowedBy(c.Exts, "x.a.org"))), int(flag(impl.Issues(c, chain[max(i-1, 0)]))))
	}
	return list
}

func TestChainsStandAlone(t *testing.T) {
	room := []impl.Cert{quickLinks(1).chain[0], {}, fullCert()}
	for i, chain := range memoryChains() {
		what := fmt.Sprintf("chain %d", i)
		want := answers(slices.Clip(slices.Clone(chain)))
		g := guardChain(chain, room)
		sameList(t, what+" with spare room", answers(g.chain), want)
		if g.touched() {
			t.Errorf("%s was written into", what)
		}
		sameList(t, what+" a second time", answers(g.chain), want)
	}
}

// One certificate at several places, and a chain whose certificates share their lists.
func TestChainsOfSharedLists(t *testing.T) {
	l := quickLinks(1).turnedAt(0, func(c *impl.Cert) { c.Issuer, c.Exts.Ca, c.Exts.Usage = c.Subject, true, 2 })
	for size := 1; size <= chainMost; size++ {
		chain := slices.Repeat(l.chain, size)
		g := guardChain(chain, chain)
		saysWell(t, "one for all", g.chain, chainNow, turnPurpose)
		saysDepth(t, "one for all", g.chain, 0)
		saysIssues(t, "one for both", g.chain[0], g.chain[0], true)
		if g.touched() {
			t.Error("one for all was written into")
		}
	}
}

// A change behind a call changes no answer that is given for what stands there then.
func TestChainsAreNotKept(t *testing.T) {
	l := quickLinks(4)
	room := slices.Clone(l.chain)
	for _, turn := range chainTurns() {
		for at := range room {
			saysWell(t, "at first", room, chainNow, turnPurpose)
			saysIssues(t, "at first", room[1], room[0], true)
			copy(room, l.with(turn, at))
			told := turn.told(at, len(room)-1)
			saysBroken(t, turn.name, room, chainNow, turnPurpose, told != notAsked, turn.code, told)
			copy(room, l.chain)
			saysDepth(t, "mended", room, 2)
		}
	}
	sig := room[0].Sig
	for i := range sig {
		sig[i] ^= 1
		saysChain(t, "a byte turned in its list", room, chainNow, 0, 3, 0)
		saysIssues(t, "a byte turned in its list", room[1], room[0], false)
		sig[i] ^= 1
		saysWell(t, "and back", room, chainNow, 0)
	}
	x := impl.Exts{Allow: []string{"org"}, Deny: []string{"net"}}
	saysAllowed(t, x, "a.org", true)
	x.Allow[0], x.Deny[0] = "net", "org"
	saysAllowed(t, x, "a.org", false)
	saysAllowed(t, impl.Exts{Allow: []string{"org"}, Deny: []string{"net"}}, "a.org", true)
}

func TestBoundsStandAlone(t *testing.T) {
	for _, allow := range boundLists() {
		for _, deny := range boundLists()[:8] {
			a, d := guard(allow, "a.org"), guard(deny, "a.org")
			for _, host := range []string{"a.org", "x.a.org", "net", "", "*.a.org"} {
				saysAllowed(t, impl.Exts{Allow: a.list, Deny: d.list}, host, labelsOf(host) != nil && allowed(impl.Exts{Allow: allow, Deny: deny}, host))
			}
			if a.touched() || d.touched() {
				t.Errorf("AllowedBy wrote into %v or %v", allow, deny)
			}
		}
	}
}

// numberFields set each field of a certificate that has numbers.
func numberFields() map[string]func(c *impl.Cert, n int) {
	return map[string]func(c *impl.Cert, n int){
		"Serial": func(c *impl.Cert, n int) { c.Serial = n }, "From": func(c *impl.Cert, n int) { c.From = n }, "To": func(c *impl.Cert, n int) { c.To = n }, "Alg": func(c *impl.Cert, n int) { c.Alg = n },
		"Path": func(c *impl.Cert, n int) { c.Exts.Path = n }, "Usage": func(c *impl.Cert, n int) { c.Exts.Usage = n }, "Purposes": func(c *impl.Cert, n int) { c.Exts.Purposes = []int{n} }, "Nets": func(c *impl.Cert, n int) { c.Exts.Nets = [][]int{{n, n, n, n}} },
		"Kind": func(c *impl.Cert, n int) { c.Key.Kind = n }, "N": func(c *impl.Cert, n int) { c.Key.N = []int{n, n} }, "E": func(c *impl.Cert, n int) { c.Key.E = n },
		"Curve": func(c *impl.Cert, n int) { c.Key.Curve = impl.Curve{P: n, A: n, B: n, N: n, GX: n, GY: n} }, "Q": func(c *impl.Cert, n int) { c.Key.Q = impl.Point{X: n, Y: n, Far: n < 0} },
		"Ed": func(c *impl.Cert, n int) { c.Key.Ed = impl.Ed{P: n, D: n, L: n, BX: n, BY: n} }, "A": func(c *impl.Cert, n int) { c.Key.A = impl.Pair{X: n, Y: n} },
	}
}

// veryFar are so great or low that no field takes them.
func veryFar() []int {
	return []int{math.MinInt, math.MinInt + 1, -1 << 40, 1 << 62, math.MaxInt - 1, math.MaxInt}
}

// Very great and very low numbers in each field.
func TestChainsOfNumbersFarOff(t *testing.T) {
	fields, far := numberFields(), veryFar()
	for _, by := range quickSigners() {
		l := linked(by, by, by)
		for what, set := range fields {
			for _, n := range far {
				for at := range l.chain {
					chain := l.spoiltAt(at, func(c *impl.Cert) { set(c, n) })
					saysBad(t, what, chain, chainNow, 0)
					saysDepth(t, what, chain, -1)
					saysOwn(t, what, chain[at], false)
					saysIssues(t, what, chain[1], chain[0], at == 2)
					saysIssues(t, what, chain[2], chain[1], at == 0)
				}
			}
		}
		for _, n := range far {
			saysBad(t, "now", l.chain, n, 0)
			saysBad(t, "purpose", l.chain, chainNow, n)
			saysBad(t, "both", l.chain, n, n)
		}
	}
}

// greatestLinks has certificates of as many bytes as can be, whose hosts are all asked of all bounds.
func greatestLinks(by signer) links {
	all := slices.Repeat([]signer{by}, chainMost)
	return linked(all...).turned(func(chain []impl.Cert) {
		for i := range chain {
			chain[i] = greatestIssuer(by)
		}
	})
}

// greatestIssuer names itself as its issuer, and is not signed yet; its hosts are allowed by the last of its bounds.
func greatestIssuer(by signer) impl.Cert {
	c := greatestCert()
	c.From, c.Key = timeLeast, by.key
	c.Exts.Deny = slices.Repeat([]string{"a." + longHost(hostBytes-2)}, impl.MaxHosts)
	c.Exts.Allow = append(slices.Repeat(c.Exts.Deny[:1], impl.MaxHosts-1), longHost(hostBytes))
	return c
}

func TestChainsEndSoon(t *testing.T) {
	s := turn(412)
	for _, by := range slices.Concat(s.rsaSigners(512, 65537), s.rsaSigners(512, 65535), quickSigners()) {
		l := greatestLinks(by)
		endsSoon(t, by.name, func() { saysWell(t, by.name, l.chain, chainNow, purposeMost) })
		endsSoon(t, by.name, func() { saysDepth(t, by.name, l.chain, 0) })
		endsSoon(t, by.name, func() { saysIssues(t, by.name, l.chain[5], l.chain[4], true) })
		denied := l.turnedAt(5, func(c *impl.Cert) {
			c.Exts.Deny = append(slices.Clone(c.Exts.Deny[1:]), longHost(hostBytes))
		})
		endsSoon(t, by.name, func() { saysChain(t, by.name, denied.chain, chainNow, purposeMost, 8, 0) })
	}
	long := slices.Repeat(quickLinks(1).chain, 1<<16)
	endsSoon(t, "a long chain", func() { saysBad(t, "a long chain", long, chainNow, 0) })
	endsSoon(t, "a long chain", func() { saysDepth(t, "a long chain", long, -1) })
}

func TestLongListsEndSoon(t *testing.T) {
	l := quickLinks(3)
	for what, long := range longCerts() {
		for at := range l.chain {
			chain := l.spoilt(func(chain []impl.Cert) { chain[at] = long })
			endsSoon(t, what, func() { saysBad(t, what, chain, chainNow, 0) })
			endsSoon(t, what, func() { saysDepth(t, what, chain, -1) })
		}
		endsSoon(t, what, func() { saysIssues(t, what, long, l.chain[0], false) })
		endsSoon(t, what, func() { saysIssues(t, what, l.chain[0], long, false) })
		endsSoon(t, what, func() { saysIssues(t, what, long, long, false) })
		long.Issuer = long.Subject
		endsSoon(t, what, func() { saysOwn(t, what, long, impl.CertOk(long)) })
	}
	many, text := slices.Repeat([]string{"net"}, 1<<20), strings.Repeat("a", 1<<24)
	endsSoon(t, "long bounds", func() { saysAllowed(t, impl.Exts{Allow: append(many, "org"), Deny: many}, "a.org", true) })
	endsSoon(t, "long bounds", func() { saysAllowed(t, impl.Exts{Allow: many, Deny: many}, longHost(hostBytes), false) })
	endsSoon(t, "long texts", func() { saysAllowed(t, impl.Exts{Allow: []string{text, "."}, Deny: []string{text}}, text, false) })
	endsSoon(t, "a long host", func() { saysAllowed(t, impl.Exts{Path: math.MaxInt}, strings.Repeat("a.", 1<<22)+"a", false) })
	endsSoon(t, "a long bound", func() { saysAllowed(t, impl.Exts{Deny: []string{text}}, "a", true) })
}
