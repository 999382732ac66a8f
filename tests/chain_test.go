package tests

import (
	"fmt"
	"strings"
	"testing"

	"loop.example/g00148/impl"
)

func TestChainConstants(t *testing.T) {
	got := []int{impl.MaxChain, impl.ChainWell, impl.ChainBad, impl.ChainName, impl.ChainSig, impl.ChainTime, impl.ChainCa, impl.ChainPath, impl.ChainUsage, impl.ChainAllow, impl.ChainPurpose}
	sameList(t, "constants", got, []int{6, 0, 1, 2, 3, 4, 5, 6, 7, 8, 9})
}

// manyLinks are chains of 1 to MaxChain, with keys of each kind at each place.
func manyLinks() []links {
	s := turn(401)
	list := signers()
	many := []links{}
	for size := 1; size <= chainMost; size++ {
		for range 12 {
			many = append(many, s.someLinks(list, size))
		}
		for _, by := range quickSigners() {
			all := []signer{}
			for range size {
				all = append(all, by)
			}
			many = append(many, linked(all...))
		}
	}
	return many
}

// isLinked holds each link and each time of a chain that is said to be well.
func isLinked(t *testing.T, what string, chain []impl.Cert, now int) {
	t.Helper()
	for i, c := range chain {
		if !impl.CertOk(c) || now < c.From || now > c.To {
			t.Errorf("%s: %d is not right, or not in its time", what, i)
		}
		if i > 0 {
			saysIssues(t, fmt.Sprintf("%s, link %d", what, i-1), c, chain[i-1], true)
			if faults := linkFaults(chain[i-1], c, i-1); len(faults) > 0 {
				t.Errorf("%s, link %d: %v", what, i-1, faults)
			}
		}
	}
}

func TestLinkedChainsAreWell(t *testing.T) {
	for i, l := range manyLinks() {
		what := fmt.Sprintf("chain %d", i)
		if !isChain(l.chain) {
			t.Fatalf("%s is no chain", what)
		}
		for _, purpose := range []int{0, 1, turnPurpose, purposeMost} {
			saysWell(t, what, l.chain, chainNow, purpose)
		}
		isLinked(t, what, l.chain, chainNow)
		saysDepth(t, what, l.chain, max(len(l.chain)-2, 0))
	}
}

// Of each chain that is well one thing is turned, at each place.
func TestOneThingTurnedIsTold(t *testing.T) {
	for i, l := range manyLinks() {
		last := len(l.chain) - 1
		for _, turn := range chainTurns() {
			for at := range l.chain {
				what := fmt.Sprintf("chain %d (%s), %s at %d", i, l.by[at].name, turn.name, at)
				chain := l.with(turn, at)
				if !isChain(chain) {
					t.Fatalf("%s is no chain", what)
				}
				told := turn.told(at, last)
				saysBroken(t, what, chain, chainNow, turnPurpose, told != notAsked, turn.code, told)
			}
		}
		saysWell(t, "as it was", l.chain, chainNow, turnPurpose)
	}
}

// Each byte of each signature, and each byte that it can lack or have more.
func TestEachByteOfASignature(t *testing.T) {
	for size := 2; size <= chainMost; size++ {
		l := quickLinks(size)
		for at, c := range l.chain[:size-1] {
			for i := range c.Sig {
				what := fmt.Sprintf("%s: Sig of %d, byte %d", l.by[at+1].name, at, i)
				for _, sig := range otherSigs(c.Sig, i) {
					saysChain(t, what, l.spoiltAt(at, func(c *impl.Cert) { c.Sig = sig }), chainNow, 0, 3, at)
				}
			}
		}
	}
}

// otherSigs lack the byte at at, have one more there, or another one.
func otherSigs(sig []byte, at int) [][]byte {
	ahead, behind := sig[:at:at], sig[at+1:]
	list := [][]byte{append(ahead, behind...), append(append(ahead, 0), sig[at:]...)}
	for _, flip := range []byte{1, 8, 64, 255} {
		list = append(list, append(append(ahead, sig[at]^flip), behind...))
	}
	return list
}

// Whoever signed by another key than the next one's is found.
func TestWhoIsNotSignedIsFound(t *testing.T) {
	list := signers()
	for size := 2; size <= chainMost; size++ {
		l := quickLinks(size)
		for at := range size - 1 {
			for _, by := range list {
				if impl.SameKey(by.key, l.by[at+1].key) {
					continue
				}
				chain := l.spoilt(func(chain []impl.Cert) { chain[at] = sealedBy(chain[at], by) })
				saysChain(t, by.name, chain, chainNow, 0, 3, at)
			}
			unsigned := l.spoiltAt(at, func(c *impl.Cert) { c.Sig = []byte{0} })
			saysChain(t, "a signature of one byte", unsigned, chainNow, 0, 3, at)
			for alg := impl.AlgRsa; alg <= impl.AlgEd; alg++ {
				other := l.by[at+1]
				right := alg == other.alg
				other.alg = alg
				chain := l.spoilt(func(chain []impl.Cert) { chain[at] = sealedBy(chain[at], other) })
				saysBroken(t, "Alg", chain, chainNow, 0, !right, 3, at)
			}
		}
	}
}

// What is signed by one further up, or by itself, is not signed by the next one.
func TestSignedByOneOfTheOthers(t *testing.T) {
	by := signers()[:chainMost]
	l := linked(by...)
	for at := range chainMost - 1 {
		for other := range by {
			chain := l.spoilt(func(chain []impl.Cert) { chain[at] = sealedBy(chain[at], by[other]) })
			saysBroken(t, fmt.Sprintf("%d by %d", at, other), chain, chainNow, 0, other != at+1, 3, at)
		}
	}
}

func TestAChainIsWellAtEachTimeWithinAll(t *testing.T) {
	s := turn(402)
	list := quickSigners()
	for range 60 {
		l := s.someLinks(list, 1+s.below(chainMost)).turned(func(chain []impl.Cert) {
			for i := range chain {
				chain[i].From, chain[i].To = chainNow-s.below(40), chainNow+s.below(40)
			}
		})
		for now := chainNow - 45; now <= chainNow+45; now++ {
			want := chainTold(l.chain, now, 0)
			saysChain(t, "by the second", l.chain, now, 0, want.code, want.at)
			late := 0
			for late < len(l.chain) && l.chain[late].From <= now && now <= l.chain[late].To {
				late++
			}
			saysBroken(t, "by the first that is not in its time", l.chain, now, 0, late < len(l.chain), 4, late)
		}
	}
}

func TestWhatIsPutBehindMakesItNoDeeperThanByOne(t *testing.T) {
	s := turn(403)
	for _, l := range manyLinks() {
		for range 4 {
			more := plainCert()
			if s.below(2) == 0 {
				more.Issuer = more.Subject
			}
			longer := append(l.chain[:len(l.chain):len(l.chain)], more)
			if len(longer) > chainMost {
				saysDepth(t, "too long", longer, -1)
				continue
			}
			before, after := impl.Depth(l.chain), impl.Depth(longer)
			if after < before || after > before+1 {
				t.Errorf("one behind makes %d to %d", before, after)
			}
		}
	}
}

// someTurned is a chain with some things changed, some of them signed; at times it is still well.
func (s *turn) someTurned(list []signer, turns []chainTurn) []impl.Cert {
	l := s.someLinks(list, 1+s.below(chainMost)).owned(func(int) bool { return s.below(4) == 0 })
	signed, behind := []chainTurn{}, []chainTurn{}
	for range s.below(4) {
		if turn := turns[s.below(len(turns))]; turn.behind {
			behind = append(behind, turn)
		} else {
			signed = append(signed, turn)
		}
	}
	l = l.turned(func(chain []impl.Cert) {
		for i := range chain {
			s.vary(&chain[i])
		}
		for _, turn := range signed {
			turn.change(&chain[s.below(len(chain))])
		}
	})
	return l.spoilt(func(chain []impl.Cert) {
		for _, turn := range behind {
			turn.change(&chain[s.below(len(chain))])
		}
	})
}

// vary changes what breaks a rule now and then.
func (s *turn) vary(c *impl.Cert) {
	x := &c.Exts
	seldom := func() bool { return s.below(6) == 0 }
	if seldom() {
		c.Issuer = []string{" hALL ", strings.ReplaceAll(c.Issuer[1], " ", "   ")}
	}
	if seldom() {
		c.Subject = []string{"HALL  ", strings.ToLower(c.Subject[1])}
	}
	if x.Ca && seldom() {
		x.Path = s.below(5) - 1
	}
	if seldom() {
		x.Usage = s.below(usageMost + 1)
	}
	if seldom() {
		x.Allow = [][]string{{"org"}, {"a.org", "b.org"}, {"x.a.org", "b.org"}, {"a.org"}, {"y.org"}}[s.below(5)]
	}
	if seldom() {
		x.Deny = [][]string{{"y.b.org"}, {"net", "y.x.a.org"}, {"c.org", "b.org"}, {"a.org"}, {"org"}}[s.below(5)]
	}
	if seldom() {
		x.Hosts = [][]string{nil, {"*.a.org"}, {"b.org", "x.b.org"}, {"a.net"}, {"org"}}[s.below(5)]
	}
	if seldom() {
		x.Purposes = [][]int{{1}, {1, 7}, {7, 1000}, {2, 6, 8}, {1000}}[s.below(5)]
	}
}

// Many chains against what is reckoned apart; those that are well are linked.
func TestSomeChains(t *testing.T) {
	s := turn(404)
	list, turns := signers(), chainTurns()
	seen := [10]int{}
	for i := range 4000 {
		chain := s.someTurned(list, turns)
		now := chainNow + []int{0, 0, 0, 100, 101, -100, -101, 250}[s.below(8)]
		purpose := []int{0, 1, 7, 7, 1000}[s.below(5)]
		want := chainTold(chain, now, purpose)
		what := fmt.Sprintf("chain %d", i)
		saysChain(t, what, chain, now, purpose, want.code, want.at)
		if code, _ := impl.CheckChain(chain, now, purpose); code == impl.ChainWell {
			isLinked(t, what, chain, now)
		}
		saysDepth(t, what, chain, othersAhead(chain, len(chain)-1))
		seen[want.code]++
	}
	for code, many := range seen {
		if many < 30 && code != impl.ChainBad {
			t.Errorf("only %d of code %d", many, code)
		}
	}
}
