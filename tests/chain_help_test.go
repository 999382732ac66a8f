package tests

import (
	"cmp"
	"fmt"
	"slices"
	"strings"
	"sync"
	"testing"

	"loop.example/g00148/impl"
)

const (
	chainMost = 6
	chainNow  = 1000000
	// notAsked is the place of a change that breaks no rule.
	notAsked = -1
)

// links is a chain, and who signs: each has the key of its own signer and is signed by the next one's; the last one by its own.
type links struct {
	chain []impl.Cert
	by    []signer
}

func levelName(level int) []string {
	return []string{"Hall", fmt.Sprintf("Level %d", level)}
}

// linked has a leaf with hosts, and others that may vouch without a bound; each lasts longer than the one ahead.
func linked(by ...signer) links {
	l := links{by: by}
	for i, own := range by {
		l.chain = append(l.chain, impl.Cert{
			Serial: 100 + i, Subject: levelName(i), Issuer: levelName(i + 1),
			From: chainNow - 100*(i+1), To: chainNow + 100*(i+1), Key: own.key, Exts: impl.Exts{Ca: true, Path: -1},
		})
	}
	l.chain[0].Exts = impl.Exts{Path: -1, Hosts: []string{"x.a.org", "*.b.org"}}
	return l.sealed()
}

func (l links) sealed() links {
	chain := slices.Clone(l.chain)
	for i, c := range chain {
		chain[i] = sealedBy(c, l.issuerOf(i))
	}
	return links{chain, l.by}
}

func (l links) issuerOf(at int) signer {
	return l.by[min(at+1, len(l.by)-1)]
}

// turned has a change, over which it is signed anew. A change puts new lists in: it writes into none.
func (l links) turned(change func(chain []impl.Cert)) links {
	return links{l.spoilt(change), l.by}.sealed()
}

func (l links) turnedAt(at int, change func(c *impl.Cert)) links {
	chain := l.spoiltAt(at, change)
	chain[at] = sealedBy(chain[at], l.issuerOf(at))
	return links{chain, l.by}
}

// owned has those own of which it is told, and is linked all the same.
func (l links) owned(own func(at int) bool) links {
	return l.turned(func(chain []impl.Cert) {
		level := 0
		for at := len(chain) - 1; at >= 0; at-- {
			chain[at].Issuer = levelName(level)
			if !own(at) {
				level++
			}
			chain[at].Subject = levelName(level)
		}
	})
}

// spoilt is the chain with a change behind its signatures.
func (l links) spoilt(change func(chain []impl.Cert)) []impl.Cert {
	chain := slices.Clone(l.chain)
	change(chain)
	return chain
}

func (l links) spoiltAt(at int, change func(c *impl.Cert)) []impl.Cert {
	return l.spoilt(func(chain []impl.Cert) { change(&chain[at]) })
}

// quickSigners are one of each algorithm, made once.
var quickSigners = sync.OnceValue(func() []signer {
	list := []signer{}
	for _, by := range signers() {
		if !slices.ContainsFunc(list, func(other signer) bool { return other.alg == by.alg }) {
			list = append(list, by)
		}
	}
	return slices.Clip(list)
})

// quickLinks has so many of keys that take turns.
func quickLinks(many int) links {
	by := quickSigners()
	for len(by) < many {
		by = append(by, by...)
	}
	return linked(by[:many]...)
}

func (s *turn) someLinks(list []signer, many int) links {
	by := []signer{}
	for range many {
		by = append(by, list[s.below(len(list))])
	}
	return linked(by...)
}

// chainFault is a rule that is broken, and where.
type chainFault struct {
	code int
	at   int
}

func sameName(a []string, b []string) bool {
	return slices.EqualFunc(a, b, func(x string, y string) bool { return slices.Equal(wordsIn(x), wordsIn(y)) })
}

func isOwn(c impl.Cert) bool {
	return sameName(c.Issuer, c.Subject)
}

func isChain(chain []impl.Cert) bool {
	return within(len(chain), 1, chainMost) && !slices.ContainsFunc(chain, func(c impl.Cert) bool { return len(certFaults(c)) > 0 })
}

// othersAhead is how many between the leaf and at are not own.
func othersAhead(chain []impl.Cert, at int) int {
	between := chain[:at]
	if at > 0 {
		between = between[1:]
	}
	return len(slices.DeleteFunc(slices.Clone(between), isOwn))
}

// allowed is reckoned apart from the program, for a host.
func allowed(x impl.Exts, host string) bool {
	is := func(base string) bool { return isUnder(base, host) }
	return (len(x.Allow) == 0 || slices.ContainsFunc(x.Allow, is)) && !slices.ContainsFunc(x.Deny, is)
}

// linkFaults are those of one and its issuer.
func linkFaults(down impl.Cert, up impl.Cert, at int) []chainFault {
	faults := []chainFault{}
	if !sameName(up.Subject, down.Issuer) {
		faults = append(faults, chainFault{2, at})
	}
	if !impl.Verify(up.Key, down.Alg, tbsNode(down).text(), down.Sig) {
		faults = append(faults, chainFault{3, at})
	}
	return faults
}

// issuerFaults are those of one that is not the leaf.
func issuerFaults(chain []impl.Cert, at int) []chainFault {
	faults, x := []chainFault{}, chain[at].Exts
	if !x.Ca {
		faults = append(faults, chainFault{5, at})
	}
	if x.Path >= 0 && othersAhead(chain, at) > x.Path {
		faults = append(faults, chainFault{6, at})
	}
	if slices.Contains([]int{1, 4, 5}, x.Usage) {
		faults = append(faults, chainFault{7, at})
	}
	for _, pattern := range chain[0].Exts.Hosts {
		if !allowed(x, strings.TrimPrefix(pattern, "*.")) {
			faults = append(faults, chainFault{8, 0})
		}
	}
	return faults
}

// chainFaults are all that a right chain has, reckoned apart from the program.
func chainFaults(chain []impl.Cert, now int, purpose int) []chainFault {
	faults := []chainFault{}
	for at, c := range chain {
		if now < c.From || now > c.To {
			faults = append(faults, chainFault{4, at})
		}
		if at > 0 {
			faults = append(faults, issuerFaults(chain, at)...)
		}
		if at < len(chain)-1 {
			faults = append(faults, linkFaults(c, chain[at+1], at)...)
			if purpose > 0 && len(c.Exts.Purposes) > 0 && !slices.Contains(c.Exts.Purposes, purpose) {
				faults = append(faults, chainFault{9, at})
			}
		}
	}
	return faults
}

func leastFault(faults []chainFault) chainFault {
	if len(faults) == 0 {
		return chainFault{}
	}
	return slices.MinFunc(faults, func(a chainFault, b chainFault) int {
		return cmp.Or(cmp.Compare(a.code, b.code), cmp.Compare(a.at, b.at))
	})
}

// chainTold is the answer for any arguments.
func chainTold(chain []impl.Cert, now int, purpose int) chainFault {
	if !isChain(chain) || !isOne(now) || !within(purpose, 0, purposeMost) {
		return chainFault{1, 0}
	}
	return leastFault(chainFaults(chain, now, purpose))
}

func saysChain(t *testing.T, what string, chain []impl.Cert, now int, purpose int, code int, at int) {
	t.Helper()
	if gotCode, gotAt := impl.CheckChain(chain, now, purpose); gotCode != code || gotAt != at {
		t.Errorf("%s: CheckChain of %d at %d for %d: got code %d at %d, want %d at %d", what, len(chain), now, purpose, gotCode, gotAt, code, at)
	}
}

func saysWell(t *testing.T, what string, chain []impl.Cert, now int, purpose int) {
	t.Helper()
	saysChain(t, what, chain, now, purpose, 0, 0)
}

func saysBad(t *testing.T, what string, chain []impl.Cert, now int, purpose int) {
	t.Helper()
	saysChain(t, what, chain, now, purpose, 1, 0)
}

// saysBroken wants the code where is tells that a rule is broken, else ChainWell.
func saysBroken(t *testing.T, what string, chain []impl.Cert, now int, purpose int, is bool, code int, at int) {
	t.Helper()
	if is {
		saysChain(t, what, chain, now, purpose, code, at)
	} else {
		saysWell(t, what, chain, now, purpose)
	}
}

func saysIssues(t *testing.T, what string, up impl.Cert, down impl.Cert, want bool) {
	t.Helper()
	if got := impl.Issues(up, down); got != want {
		t.Errorf("%s: Issues of %q and %q: got %v, want %v", what, up.Subject, down.Subject, got, want)
	}
}

func saysAllowed(t *testing.T, x impl.Exts, host string, want bool) {
	t.Helper()
	if got := impl.AllowedBy(x, host); got != want {
		t.Errorf("AllowedBy(%+v, %q): got %v, want %v", x, host, got, want)
	}
}

func saysOwn(t *testing.T, what string, c impl.Cert, want bool) {
	t.Helper()
	if got := impl.OwnIssuer(c); got != want {
		t.Errorf("%s: OwnIssuer with Issuer %q and Subject %q: got %v, want %v", what, c.Issuer, c.Subject, got, want)
	}
}

func saysDepth(t *testing.T, what string, chain []impl.Cert, want int) {
	t.Helper()
	if got := impl.Depth(chain); got != want {
		t.Errorf("%s: Depth of %d: got %d, want %d", what, len(chain), got, want)
	}
}

// chainTurn changes one thing at a place of a chain as linked makes it; told is where that is told, or notAsked.
type chainTurn struct {
	name   string
	code   int
	told   func(at int, last int) int
	change func(c *impl.Cert)
	// behind tells that the change is not signed.
	behind bool
}

func toldAtEach(at int, _ int) int {
	return at
}

func toldButLast(at int, last int) int {
	if at == last {
		return notAsked
	}
	return at
}

func toldButLeaf(at int, _ int) int {
	if at == 0 {
		return notAsked
	}
	return at
}

func toldAhead(at int, _ int) int {
	return at - 1
}

func toldOfLeaf(at int, _ int) int {
	if at == 0 {
		return notAsked
	}
	return 0
}

// toldBehindTwo is where at least one stands between it and the leaf.
func toldBehindTwo(at int, _ int) int {
	if at < 2 {
		return notAsked
	}
	return at
}

const turnPurpose = 7

// chainTurns are for chains at chainNow, asked for turnPurpose.
func chainTurns() []chainTurn {
	flipped := func(at int, by byte) func(c *impl.Cert) {
		return func(c *impl.Cert) {
			c.Sig = slices.Clone(c.Sig)
			c.Sig[(at+len(c.Sig))%len(c.Sig)] ^= by
		}
	}
	return []chainTurn{
		{"Subject", 2, toldAhead, func(c *impl.Cert) { c.Subject = []string{"Hall", "elsewhere"} }, false},
		{"Subject, a text fewer", 2, toldAhead, func(c *impl.Cert) { c.Subject = c.Subject[:1] }, false},
		{"Issuer", 2, toldButLast, func(c *impl.Cert) { c.Issuer = []string{"nobody"} }, false},
		{"the first byte of Sig", 3, toldButLast, flipped(0, 1), true},
		{"the last byte of Sig", 3, toldButLast, flipped(-1, 128), true},
		{"Sig lacks its first byte", 3, toldButLast, func(c *impl.Cert) { c.Sig = c.Sig[1:] }, true},
		{"Sig lacks its last byte", 3, toldButLast, func(c *impl.Cert) { c.Sig = c.Sig[:len(c.Sig)-1] }, true},
		{"Serial, not signed", 3, toldButLast, func(c *impl.Cert) { c.Serial++ }, true},
		{"From", 4, toldAtEach, func(c *impl.Cert) { c.From, c.To = chainNow+1, chainNow+900 }, false},
		{"To", 4, toldAtEach, func(c *impl.Cert) { c.From, c.To = chainNow-900, chainNow-1 }, false},
		{"Ca", 5, toldButLeaf, func(c *impl.Cert) { c.Exts.Ca, c.Exts.Path = false, -1 }, false},
		{"Path", 6, toldBehindTwo, func(c *impl.Cert) { c.Exts.Ca, c.Exts.Path = true, 0 }, false},
		{"Usage", 7, toldButLeaf, func(c *impl.Cert) { c.Exts.Usage = 5 }, false},
		{"Allow", 8, toldOfLeaf, func(c *impl.Cert) { c.Exts.Allow = []string{"c.org", "x.a.org"} }, false},
		{"Deny", 8, toldOfLeaf, func(c *impl.Cert) { c.Exts.Deny = []string{"c.org", "a.org"} }, false},
		{"Purposes", 9, toldButLast, func(c *impl.Cert) { c.Exts.Purposes = []int{turnPurpose - 1, turnPurpose + 1} }, false},
	}
}

func (l links) with(turn chainTurn, at int) []impl.Cert {
	if turn.behind {
		return l.spoiltAt(at, turn.change)
	}
	return l.turnedAt(at, turn.change).chain
}
