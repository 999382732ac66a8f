package tests

import (
	"fmt"
	"slices"
	"strings"
	"testing"

	"loop.example/g00148/impl"
)

func TestIssuesWithTheRightKey(t *testing.T) {
	for _, by := range signers() {
		l := linked(by, by)
		saysIssues(t, by.name, l.chain[1], l.chain[0], true)
		saysIssues(t, by.name+", turned about", l.chain[0], l.chain[1], false)
		own := l.turnedAt(1, func(c *impl.Cert) { c.Issuer = c.Subject }).chain[1]
		saysIssues(t, by.name+", itself", own, own, true)
		saysIssues(t, by.name+", no own one itself", l.chain[0], l.chain[0], false)
	}
}

func TestIssuesWithAnotherKey(t *testing.T) {
	list := signers()
	for _, by := range list {
		l := linked(by, by)
		for _, other := range list {
			up := l.chain[1]
			up.Key = other.key
			saysIssues(t, by.name+" and "+other.name, up, l.chain[0], impl.SameKey(by.key, other.key))
		}
	}
}

func TestIssuesWithOtherNames(t *testing.T) {
	l := quickLinks(2)
	for _, name := range [][]string{{"Hall", "Level 1"}, {" hall", "LEVEL   1 "}, {"HALL  ", "level 1"}} {
		saysIssues(t, "spelt otherwise", l.spoiltAt(1, func(c *impl.Cert) { c.Subject = name })[1], l.chain[0], true)
		saysIssues(t, "spelt otherwise", l.chain[1], l.turnedAt(0, func(c *impl.Cert) { c.Issuer = name }).chain[0], true)
	}
	for _, name := range [][]string{{"Hall"}, {"Hall", "Level1"}, {"Hall", "Level 2"}, {"Level 1", "Hall"}, {"Hall", "Level 1", "x"}, {"Hal l", "Level 1"}} {
		saysIssues(t, "another Subject", l.spoiltAt(1, func(c *impl.Cert) { c.Subject = name })[1], l.chain[0], false)
		saysIssues(t, "another Issuer", l.chain[1], l.turnedAt(0, func(c *impl.Cert) { c.Issuer = name }).chain[0], false)
	}
}

// Who issues is asked for name and signature alone.
func TestIssuesAsksNothingElse(t *testing.T) {
	l := quickLinks(2)
	for what, change := range map[string]func(c *impl.Cert){
		"no Ca": func(c *impl.Cert) { c.Exts.Ca = false }, "Path": func(c *impl.Cert) { c.Exts.Path = 0 }, "Usage": func(c *impl.Cert) { c.Exts.Usage = 5 }, "Deny": func(c *impl.Cert) { c.Exts.Deny = []string{"org"} },
		"Allow": func(c *impl.Cert) { c.Exts.Allow = []string{"net"} }, "times": func(c *impl.Cert) { c.From, c.To = timeLeast, timeLeast }, "Sig": func(c *impl.Cert) { c.Sig = []byte{0} }, "Issuer": func(c *impl.Cert) { c.Issuer = []string{"nobody"} },
	} {
		saysIssues(t, what, l.spoiltAt(1, change)[1], l.chain[0], true)
	}
	for _, turn := range chainTurns() {
		down := l.with(turn, 0)[0]
		saysIssues(t, turn.name, l.chain[1], down, turn.name != "Issuer" && !turn.behind)
	}
}

func TestIssuesOfWhatIsNotOk(t *testing.T) {
	l := quickLinks(2)
	for at := range 2 {
		for what, wrong := range wrongCerts() {
			chain := l.turnedAt(at, wrong).chain
			saysIssues(t, fmt.Sprintf("%s at %d", what, at), chain[1], chain[0], false)
		}
		for what, wrong := range unsignableCerts() {
			chain := l.spoiltAt(at, wrong)
			saysIssues(t, fmt.Sprintf("%s at %d", what, at), chain[1], chain[0], false)
		}
	}
	saysIssues(t, "nothing", impl.Cert{}, impl.Cert{}, false)
	for _, by := range signers() {
		l := linked(by, by)
		for what, key := range spoiltKeys(by.key) {
			saysIssues(t, what, l.spoiltAt(1, func(c *impl.Cert) { c.Key = key })[1], l.chain[0], false)
			saysIssues(t, what, l.chain[1], l.spoiltAt(0, func(c *impl.Cert) { c.Key = key })[0], false)
		}
	}
}

func TestIssuesWithAnotherSig(t *testing.T) {
	for _, by := range signers() {
		l := linked(by, by)
		for i := range l.chain[0].Sig {
			for _, sig := range otherSigs(l.chain[0].Sig, i) {
				saysIssues(t, by.name, l.chain[1], l.spoiltAt(0, func(c *impl.Cert) { c.Sig = sig })[0], false)
			}
		}
	}
}

func TestAllowedByHand(t *testing.T) {
	for _, c := range boundCases() {
		if c.hosts == "" || strings.ContainsAny(c.hosts, "* ") {
			continue
		}
		saysAllowed(t, impl.Exts{Allow: strings.Fields(c.allow), Deny: strings.Fields(c.deny)}, c.hosts, !c.broken)
	}
}

// boundLists are lists as Allow and Deny have them: none, one and several.
func boundLists() [][]string {
	list := [][]string{nil, {}, {"net", "a.org", "b"}, {"b.org", "x.a.org"}, {"org", "a", "b"}, {"b", "org"}}
	for _, host := range hosts() {
		list = append(list, []string{host})
	}
	return list
}

func TestAllowedByEachBounds(t *testing.T) {
	seen := tally{}
	for _, allow := range boundLists() {
		for _, deny := range boundLists() {
			x := impl.Exts{Allow: allow, Deny: deny}
			for _, host := range hosts() {
				want := allowed(x, host)
				saysAllowed(t, x, host, want)
				seen.count(want)
			}
		}
	}
	seen.enough(t, 3000)
}

func TestAllowedByOfNoHost(t *testing.T) {
	for _, host := range wrongHosts() {
		for _, x := range []impl.Exts{{}, {Path: -1}, {Allow: []string{"org"}}, {Allow: []string{"a"}, Deny: []string{"b"}}, {Allow: []string{host}}, {Deny: []string{host}}} {
			saysAllowed(t, x, host, false)
		}
	}
	for _, star := range []string{"*.a.org", "*.org", "*", "*.", "*.x.a.org"} {
		saysAllowed(t, impl.Exts{}, star, false)
		saysAllowed(t, impl.Exts{Allow: []string{"a.org", "org", "*.a.org", star}}, star, false)
	}
}

// What is no host in Allow or Deny has nobody under it; where Allow has only such, nobody is allowed.
func TestAllowedByBoundsThatAreNoHosts(t *testing.T) {
	for _, wrong := range wrongHosts() {
		for _, host := range []string{"a", "a.org", "x.a.org", "b.a"} {
			saysAllowed(t, impl.Exts{Allow: []string{wrong}}, host, false)
			saysAllowed(t, impl.Exts{Allow: []string{wrong, host}}, host, true)
			saysAllowed(t, impl.Exts{Deny: []string{wrong}}, host, true)
			saysAllowed(t, impl.Exts{Deny: []string{wrong, host}}, host, false)
		}
	}
	many := slices.Repeat([]string{"net"}, impl.MaxHosts+5)
	saysAllowed(t, impl.Exts{Allow: append(many, "org")}, "a.org", true)
	saysAllowed(t, impl.Exts{Allow: many}, "a.org", false)
	saysAllowed(t, impl.Exts{Deny: append(many, "org")}, "a.org", false)
	saysAllowed(t, impl.Exts{Deny: many}, "a.org", true)
}

// Of Exts only Allow and Deny are looked at.
func TestAllowedByAsksNothingElse(t *testing.T) {
	for _, n := range append(farOff(), 0, 8, 11) {
		x := impl.Exts{Path: n, Usage: n, Hosts: []string{"", "net"}, Nets: [][]int{nil, {n}}, Purposes: []int{n, n}, Allow: []string{"org"}, Deny: []string{"b.org"}}
		saysAllowed(t, x, "a.org", true)
		saysAllowed(t, x, "x.b.org", false)
		saysAllowed(t, x, "net", false)
		x.Ca = true
		saysAllowed(t, x, "a.org", true)
	}
}

func TestOwnIssuerByNames(t *testing.T) {
	names := [][]string{{"a"}, {"A"}, {" a "}, {"a", "b"}, {"A ", " B"}, {"a b"}, {"A  B"}, {"ab"}, {"b", "a"}, {"a", "b", "c", "d"}, {"a", "b", "c"}, {" "}, {"   "}}
	seen := tally{}
	for _, by := range quickSigners() {
		for _, issuer := range names {
			for _, subject := range names {
				c := linked(by).turnedAt(0, func(c *impl.Cert) { c.Issuer, c.Subject = issuer, subject }).chain[0]
				want := sameName(issuer, subject)
				saysOwn(t, by.name, c, want)
				c.Sig, c.Exts.Ca = []byte{0}, !c.Exts.Ca
				saysOwn(t, by.name+", not signed", c, want)
				seen.count(want)
			}
		}
	}
	seen.enough(t, 50)
}

func TestOwnIssuerOfWhatIsNotOk(t *testing.T) {
	own := quickLinks(1).turnedAt(0, func(c *impl.Cert) { c.Issuer = c.Subject })
	saysOwn(t, "own", own.chain[0], true)
	for _, wrongs := range []map[string]func(c *impl.Cert){wrongCerts(), unsignableCerts()} {
		for what, wrong := range wrongs {
			c := own.spoiltAt(0, wrong)[0]
			saysOwn(t, what, c, false)
			c.Issuer = c.Subject
			saysOwn(t, what+", both names the same", c, len(certFaults(c)) == 0)
		}
	}
	for _, name := range [][]string{nil, {}, {""}, {"\x7f"}, {"a", ""}, slices.Repeat([]string{"a"}, textsMost+1), {strings.Repeat("a", impl.MaxText+1)}} {
		c := plainCert()
		c.Issuer, c.Subject = name, name
		saysOwn(t, "names that are none", c, false)
	}
	saysOwn(t, "nothing", impl.Cert{}, false)
}

// Own ones at each place of chains of each length; a chain need not be linked.
func TestDepthWithOwnOnesAtEachPlace(t *testing.T) {
	for size := 1; size <= chainMost; size++ {
		for owns := range 1 << size {
			want := 0
			for at := 1; at < size-1; at++ {
				want += 1 - owns>>at&1
			}
			own := func(at int) bool { return owns>>at&1 == 1 }
			saysDepth(t, fmt.Sprintf("own %b", owns), quickLinks(size).owned(own).chain, want)
			loose := quickLinks(size).spoilt(func(chain []impl.Cert) {
				for at := range chain {
					chain[at].Sig, chain[at].Exts = []byte{1}, impl.Exts{Path: -1}
					chain[at].Issuer = []string{"nobody"}
					if own(at) {
						chain[at].Issuer = []string{" hall", "LEVEL  " + fmt.Sprint(at)}
					}
				}
			})
			saysDepth(t, fmt.Sprintf("own %b, not linked", owns), loose, want)
		}
	}
}

func TestDepthOfNoChain(t *testing.T) {
	for size := chainMost + 1; size < 20; size++ {
		saysDepth(t, "too long", quickLinks(size).chain, -1)
		saysDepth(t, "too long", slices.Repeat([]impl.Cert{plainCert()}, size), -1)
	}
	saysDepth(t, "nil", nil, -1)
	saysDepth(t, "nothing", []impl.Cert{{}}, -1)
	saysDepth(t, "nothing at the end", append(quickLinks(2).chain, impl.Cert{}), -1)
}
