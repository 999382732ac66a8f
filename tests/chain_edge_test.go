package tests

import (
	"fmt"
	"slices"
	"strings"
	"testing"

	"loop.example/g00148/impl"
)

func TestChainsOfEachLength(t *testing.T) {
	for size := 1; size <= chainMost+4; size++ {
		l := quickLinks(size)
		what := fmt.Sprintf("%d of them", size)
		saysBroken(t, what, l.chain, chainNow, 0, size > chainMost, 1, 0)
		saysBroken(t, what, l.chain, chainNow, turnPurpose, size > chainMost, 1, 0)
	}
	for _, none := range [][]impl.Cert{nil, {}, quickLinks(1).chain[:0]} {
		saysBad(t, "none", none, chainNow, 0)
		saysBad(t, "none", none, timeMost+1, -1)
		saysDepth(t, "none", none, -1)
	}
}

// wrongCerts make a right certificate no right one; each is signed all the same, where it is not its key.
func wrongCerts() map[string]func(c *impl.Cert) {
	return map[string]func(c *impl.Cert){
		"Serial 0": func(c *impl.Cert) { c.Serial = 0 }, "Serial": func(c *impl.Cert) { c.Serial = serialMost + 1 },
		"a text too many": func(c *impl.Cert) { c.Subject = slices.Repeat([]string{"a"}, textsMost+1) },
		"a byte 127":      func(c *impl.Cert) { c.Issuer = append(slices.Clone(c.Issuer), "\x7f") },
		"From above To":   func(c *impl.Cert) { c.From = c.To + 1 }, "From": func(c *impl.Cert) { c.From = timeLeast - 1 },
		"Path":             func(c *impl.Cert) { c.Exts.Ca, c.Exts.Path = true, pathMost+1 },
		"Path below -1":    func(c *impl.Cert) { c.Exts.Ca, c.Exts.Path = true, -2 },
		"Path without Ca":  func(c *impl.Cert) { c.Exts.Ca, c.Exts.Path = false, 0 },
		"Usage":            func(c *impl.Cert) { c.Exts.Usage = usageMost + 1 },
		"a star in Allow":  func(c *impl.Cert) { c.Exts.Allow = []string{"*.a.org", "org"} },
		"Deny":             func(c *impl.Cert) { c.Exts.Deny = []string{"Net"} },
		"a star too short": func(c *impl.Cert) { c.Exts.Hosts = []string{"*.org"} },
		"Purposes":         func(c *impl.Cert) { c.Exts.Purposes = []int{turnPurpose, turnPurpose} },
	}
}

// unsignableCerts are wrong where no bytes can be reckoned of them.
func unsignableCerts() map[string]func(c *impl.Cert) {
	return map[string]func(c *impl.Cert){
		"no Sig": func(c *impl.Cert) { c.Sig = nil }, "Sig": func(c *impl.Cert) { c.Sig = make([]byte, sigMost+1) },
		"Alg 0": func(c *impl.Cert) { c.Alg = 0 }, "Alg 5": func(c *impl.Cert) { c.Alg = 5 },
		"no key": func(c *impl.Cert) { c.Key = impl.Key{} }, "kind": func(c *impl.Cert) { c.Key.Kind = 4 },
		"a key too full": func(c *impl.Cert) { c.Key.E, c.Key.A, c.Key.Q = c.Key.E+2, impl.Pair{X: 1}, impl.Point{X: 1} },
		"no Issuer":      func(c *impl.Cert) { c.Issuer = nil }, "an empty Subject": func(c *impl.Cert) { c.Subject = []string{} },
		"an address": func(c *impl.Cert) { c.Exts.Nets = [][]int{{1, 2, 3}} }, "nothing": func(c *impl.Cert) { *c = impl.Cert{} },
	}
}

func TestOneThatIsNotOkAtEachPlace(t *testing.T) {
	for size := 1; size <= chainMost; size++ {
		l := quickLinks(size)
		for at := range size {
			for what, wrong := range wrongCerts() {
				chain := l.turnedAt(at, wrong).chain
				saysBad(t, what, chain, chainNow, 0)
				saysBad(t, what, chain, chainNow, turnPurpose)
				saysDepth(t, what, chain, -1)
			}
			for what, wrong := range unsignableCerts() {
				chain := l.spoiltAt(at, wrong)
				saysBad(t, what, chain, chainNow, 0)
				saysDepth(t, what, chain, -1)
			}
		}
	}
}

// What is no chain is told ahead of all other faults.
func TestChainBadIsFirst(t *testing.T) {
	l := quickLinks(4)
	for _, turn := range chainTurns() {
		for at := range l.chain {
			chain := l.with(turn, at)
			saysBad(t, turn.name, chain, timeLeast-1, turnPurpose)
			saysBad(t, turn.name, chain, timeMost+1, turnPurpose)
			saysBad(t, turn.name, chain, chainNow, -1)
			saysBad(t, turn.name, chain, chainNow, purposeMost+1)
			for wrong := range chain {
				other := slices.Clone(chain)
				other[wrong].Serial = 0
				saysBad(t, turn.name, other, chainNow, turnPurpose)
			}
		}
	}
}

func TestChainsAtNoTime(t *testing.T) {
	for size := 1; size <= chainMost; size++ {
		always := quickLinks(size).turned(func(chain []impl.Cert) {
			for i := range chain {
				chain[i].From, chain[i].To = timeLeast, timeMost
			}
		})
		for _, now := range append(farOff(), timeLeast-1, timeMost+1, timeLeast, timeMost, 0, 1, -1) {
			saysBroken(t, "always", always.chain, now, 0, !isOne(now), 1, 0)
		}
	}
}

func TestChainsAtTheirTimes(t *testing.T) {
	l := quickLinks(chainMost)
	edges := []int{timeLeast, timeLeast + 1, -1, 0, chainNow, timeShortMost, timeShortMost + 1, timeMost - 1, timeMost}
	for at := range l.chain {
		for _, from := range edges {
			for _, to := range edges {
				if from > to {
					continue
				}
				chain := l.turned(func(chain []impl.Cert) {
					for i := range chain {
						chain[i].From, chain[i].To = timeLeast, timeMost
					}
					chain[at].From, chain[at].To = from, to
				}).chain
				for _, now := range []int{from - 1, from, from + 1, to - 1, to, to + 1} {
					if isOne(now) {
						saysBroken(t, fmt.Sprintf("%d .. %d at %d", from, to, at), chain, now, 0, now < from || now > to, 4, at)
					} else {
						saysBad(t, "no time", chain, now, 0)
					}
				}
			}
		}
	}
}

func TestPurposesAsked(t *testing.T) {
	lists := [][]int{nil, {}, {1}, {1000}, {2, 3, 4, 5, 6, 7}, {1, 1000}, {995, 996, 997, 998, 999, 1000}}
	for size := 1; size <= chainMost; size++ {
		l := quickLinks(size)
		for at := range size {
			for _, list := range lists {
				chain := l.turnedAt(at, func(c *impl.Cert) { c.Exts.Purposes = list }).chain
				for _, purpose := range []int{0, 1, 2, 7, 8, 994, 995, 999, 1000} {
					broken := purpose != 0 && at < size-1 && len(list) > 0 && !slices.Contains(list, purpose)
					saysBroken(t, fmt.Sprintf("%v at %d", list, at), chain, chainNow, purpose, broken, 9, at)
				}
				for _, purpose := range append(farOff(), -1000, 1001, 1002, 1<<32+1) {
					saysBad(t, fmt.Sprintf("%v at %d", list, at), chain, chainNow, purpose)
				}
			}
		}
	}
}

// A chain of one is leaf and last one at once: of all rules its time alone is asked.
func TestChainsOfOne(t *testing.T) {
	for _, by := range signers() {
		l := linked(by)
		for _, turn := range chainTurns() {
			broken := turn.code == impl.ChainTime
			saysBroken(t, by.name+", "+turn.name, l.with(turn, 0), chainNow, turnPurpose, broken, 4, 0)
		}
	}
	alone := func(change func(c *impl.Cert)) []impl.Cert { return quickLinks(1).spoiltAt(0, change) }
	for _, chain := range [][]impl.Cert{
		alone(func(c *impl.Cert) { c.Sig = []byte{0} }), alone(func(c *impl.Cert) { c.Sig = make([]byte, sigMost) }), alone(func(c *impl.Cert) { c.Alg = 5 - c.Alg }),
		alone(func(c *impl.Cert) { c.Exts.Usage = 5 }), alone(func(c *impl.Cert) { c.Exts = impl.Exts{Ca: true, Path: 0, Usage: 1} }), alone(func(c *impl.Cert) { c.Issuer = c.Subject }),
		alone(func(c *impl.Cert) { c.Exts.Deny = []string{"org"} }), alone(func(c *impl.Cert) { c.Exts.Allow = []string{"net"} }), alone(func(c *impl.Cert) { c.Exts.Purposes = []int{1} }),
		{fullCert()}, {plainCert()},
	} {
		saysWell(t, "alone", chain, chain[0].From, turnPurpose)
		saysWell(t, "alone", chain, chain[0].To, turnPurpose)
		saysChain(t, "alone, too soon", chain, chain[0].From-1, turnPurpose, 4, 0)
		saysChain(t, "alone, too late", chain, chain[0].To+1, turnPurpose, 4, 0)
		saysDepth(t, "alone", chain, 0)
	}
}

// What is not asked of the leaf, and what is not asked of the last one.
func TestEndsThatAreNotAsked(t *testing.T) {
	for size := 2; size <= chainMost; size++ {
		l := quickLinks(size)
		last := size - 1
		leaf := func(what string, change func(c *impl.Cert)) {
			saysWell(t, "leaf: "+what, l.turnedAt(0, change).chain, chainNow, turnPurpose)
		}
		end := func(what string, change func(c *impl.Cert)) {
			saysWell(t, "last: "+what, l.spoiltAt(last, change), chainNow, turnPurpose)
		}
		leaf("Ca", func(c *impl.Cert) { c.Exts.Ca = true })
		leaf("Path", func(c *impl.Cert) { c.Exts.Ca, c.Exts.Path = true, 0 })
		leaf("Subject", func(c *impl.Cert) { c.Subject = []string{"any"} })
		leaf("own", func(c *impl.Cert) { c.Subject = c.Issuer })
		for usage := range usageMost + 1 {
			leaf("Usage", func(c *impl.Cert) { c.Exts.Usage = usage })
		}
		leaf("Allow", func(c *impl.Cert) { c.Exts.Allow = []string{"net"} })
		leaf("Deny", func(c *impl.Cert) { c.Exts.Deny = []string{"org", "x.a.org", "b.org"} })
		end("Sig", func(c *impl.Cert) { c.Sig = []byte{1} })
		end("Alg", func(c *impl.Cert) { c.Alg = c.Alg%4 + 1 })
		end("Issuer", func(c *impl.Cert) { c.Issuer = []string{"nobody"} })
		end("own", func(c *impl.Cert) { c.Issuer = c.Subject })
		end("Purposes", func(c *impl.Cert) { c.Exts.Purposes = []int{1, 1000} })
		end("Hosts", func(c *impl.Cert) { c.Exts.Hosts, c.Exts.Deny = []string{"y.c.org"}, []string{"c.org"} })
	}
}

// Path at each place of chains with own ones at each place.
func TestPathBounds(t *testing.T) {
	seen := tally{}
	for size := 1; size <= chainMost; size++ {
		quick := quickLinks(size)
		for owns := range 1 << size {
			own := func(at int) bool { return owns>>at&1 == 1 }
			l := quick.owned(own)
			saysWell(t, "without bounds", l.chain, chainNow, 0)
			for at := 1; at < size; at++ {
				others := 0
				for between := 1; between < at; between++ {
					if !own(between) {
						others++
					}
				}
				for _, path := range []int{-1, 0, others - 1, others, others + 1, pathMost} {
					chain := l.turnedAt(at, func(c *impl.Cert) { c.Exts.Path = max(path, -1) }).chain
					broken := path >= 0 && others > path
					saysBroken(t, fmt.Sprintf("own %b, Path %d at %d", owns, path, at), chain, chainNow, 0, broken, 6, at)
					seen.count(broken)
				}
			}
		}
	}
	seen.enough(t, 100)
}

func TestUsages(t *testing.T) {
	for size := 2; size <= chainMost; size++ {
		l := quickLinks(size)
		for at := range size {
			for usage, broken := range []bool{false, true, false, false, true, true, false, false} {
				chain := l.turnedAt(at, func(c *impl.Cert) { c.Exts.Usage = usage }).chain
				saysBroken(t, fmt.Sprintf("Usage %d at %d", usage, at), chain, chainNow, 0, broken && at > 0, 7, at)
			}
		}
	}
}

// boundCase has hosts of the leaf, and what another one says of them.
type boundCase struct {
	hosts  string
	allow  string
	deny   string
	broken bool
}

func boundCases() []boundCase {
	return []boundCase{
		{"a.org", "", "", false}, {"", "net", "net", false}, {"", "", "", false},
		{"a.org", "a.org", "", false}, {"a.org", "org", "", false}, {"x.a.org", "a.org", "", false}, {"y.x.a.org", "org", "", false},
		{"a.org", "x.a.org", "", true}, {"a.org", "net", "", true}, {"ba.org", "a.org", "", true}, {"org", "a.org", "", true}, {"a.org.net", "a.org", "", true},
		{"a.org", "net com org", "", false}, {"a.org", "net com edu", "", true}, {"a.org", "net a.org", "", false},
		{"a.org b.org", "a.org b.org", "", false}, {"a.org b.org", "a.org", "", true}, {"b.org a.org", "a.org", "", true}, {"a.org b.org c.net", "org", "", true}, {"a.org b.org c.org", "org", "", false},
		{"*.a.org", "a.org", "", false}, {"*.a.org", "org", "", false}, {"*.a.org", "x.a.org", "", true}, {"*.a.org", "b.org", "", true}, {"*.a.org x.a.org", "a.org", "", false},
		{"a.org", "", "a.org", true}, {"a.org", "", "org", true}, {"x.a.org", "", "a.org", true}, {"a.org", "", "x.a.org", false}, {"a.org", "", "net", false}, {"ba.org", "", "a.org", false}, {"a.org.net", "", "a.org", false},
		{"a.org", "", "net com org", true}, {"a.org", "", "net com edu", false}, {"a.org b.org", "", "b.org", true}, {"b.org a.org", "", "b.org", true}, {"a.org b.org", "", "c.org", false},
		{"*.a.org", "", "a.org", true}, {"*.a.org", "", "org", true}, {"*.a.org", "", "x.a.org", false}, {"*.a.org", "", "b.org", false},
		{"a.org", "org", "org", true}, {"a.org", "org", "a.org", true}, {"a.org", "a.org", "org", true}, {"a.org", "org", "b.org", false}, {"a.org", "net", "com", true}, {"x.a.org y.a.org", "a.org", "y.a.org", true},
	}
}

func TestBoundsOfAnotherOne(t *testing.T) {
	for size := 1; size <= chainMost; size++ {
		l := quickLinks(size)
		for _, c := range boundCases() {
			for at := range size {
				chain := l.turned(func(chain []impl.Cert) {
					chain[0].Exts.Hosts = strings.Fields(c.hosts)
					chain[at].Exts.Allow, chain[at].Exts.Deny = strings.Fields(c.allow), strings.Fields(c.deny)
				}).chain
				saysBroken(t, fmt.Sprintf("%+v at %d", c, at), chain, chainNow, 0, c.broken && at > 0, 8, 0)
			}
		}
	}
}

// Each of the others is asked for itself: what one allows helps nothing with another one.
func TestBoundsOfSeveral(t *testing.T) {
	bounds := func(allows []string, denies []string) []impl.Cert {
		return quickLinks(3).turned(func(chain []impl.Cert) {
			chain[0].Exts.Hosts = []string{"x.a.org", "*.b.org"}
			for i := range 2 {
				chain[i+1].Exts.Allow, chain[i+1].Exts.Deny = strings.Fields(allows[i]), strings.Fields(denies[i])
			}
		}).chain
	}
	none := []string{"", ""}
	saysWell(t, "both", bounds([]string{"org", "a.org b.org"}, none), chainNow, 0)
	saysWell(t, "one", bounds([]string{"org", ""}, none), chainNow, 0)
	saysWell(t, "one", bounds([]string{"", "org"}, none), chainNow, 0)
	saysWell(t, "both deny others", bounds(none, []string{"net", "y.x.a.org"}), chainNow, 0)
	saysChain(t, "a host each", bounds([]string{"a.org", "b.org"}, none), chainNow, 0, 8, 0)
	saysChain(t, "the first", bounds([]string{"net", "org"}, none), chainNow, 0, 8, 0)
	saysChain(t, "the second", bounds([]string{"org", "net"}, none), chainNow, 0, 8, 0)
	saysChain(t, "allowed and denied", bounds([]string{"org", "org"}, []string{"", "b.org"}), chainNow, 0, 8, 0)
	saysChain(t, "denied and allowed", bounds([]string{"org", "org"}, []string{"x.a.org", ""}), chainNow, 0, 8, 0)
}

// Addresses, and hosts of the others, are not bound.
func TestWhatIsNotBound(t *testing.T) {
	l := quickLinks(4)
	chain := l.turned(func(chain []impl.Cert) {
		chain[0].Exts.Hosts, chain[0].Exts.Nets = nil, [][]int{{10, 0, 0, 1}}
		chain[1].Exts.Hosts = []string{"a.net"}
		chain[2].Exts.Allow, chain[3].Exts.Deny = []string{"org"}, []string{"net"}
	}).chain
	saysWell(t, "hosts between", chain, chainNow, 0)
}

// Names that differ in capital letters and blanks alone are one.
func TestNamesSpeltOtherwise(t *testing.T) {
	l := quickLinks(chainMost)
	names := [][]string{{"Great Hall", "one"}, {"GREAT HALL", "ONE"}, {"  great   hall ", " One"}, {"gREAT  hALL", "one   "}}
	for at := range chainMost - 1 {
		for _, issuer := range names {
			for _, subject := range names {
				chain := l.turned(func(chain []impl.Cert) { chain[at].Issuer, chain[at+1].Subject = issuer, subject }).chain
				saysWell(t, "spelt otherwise", chain, chainNow, 0)
			}
			for _, subject := range [][]string{{"GreatHall", "one"}, {"great hall"}, {"great hall", "one", "two"}, {"one", "great hall"}, {"great hall", "on e"}, {"great-hall", "one"}} {
				chain := l.turned(func(chain []impl.Cert) { chain[at].Issuer, chain[at+1].Subject = issuer, subject }).chain
				saysChain(t, "another name", chain, chainNow, 0, 2, at)
			}
		}
	}
}

// Own ones spelt otherwise do not count either.
func TestOwnOnesSpeltOtherwise(t *testing.T) {
	l := quickLinks(4).turned(func(chain []impl.Cert) {
		chain[1].Issuer, chain[1].Subject = []string{"hall"}, []string{" HALL "}
		chain[0].Issuer, chain[2].Subject = []string{"Hall"}, []string{"hALL"}
		chain[2].Exts.Path, chain[3].Exts.Path = 0, 1
	})
	saysWell(t, "own", l.chain, chainNow, 0)
	saysDepth(t, "own", l.chain, 1)
	deeper := l.turnedAt(3, func(c *impl.Cert) { c.Exts.Path = 0 })
	saysChain(t, "one that is not own", deeper.chain, chainNow, 0, 6, 3)
}

// What is told by hand: the place of a name is that of the one ahead, whoever was changed.
func TestPlacesByHand(t *testing.T) {
	l := quickLinks(3)
	saysChain(t, "Subject of the last one", l.spoiltAt(2, func(c *impl.Cert) { c.Subject = []string{"x"} }), chainNow, 0, 2, 1)
	saysChain(t, "Subject between", l.spoiltAt(1, func(c *impl.Cert) { c.Subject = []string{"x"} }), chainNow, 0, 2, 0)
	saysChain(t, "Subject of the leaf", l.spoiltAt(0, func(c *impl.Cert) { c.Subject = []string{"x"} }), chainNow, 0, 3, 0)
	saysChain(t, "Issuer of the leaf", l.spoiltAt(0, func(c *impl.Cert) { c.Issuer = []string{"x"} }), chainNow, 0, 2, 0)
	saysChain(t, "without the one between", []impl.Cert{l.chain[0], l.chain[2]}, chainNow, 0, 2, 0)
	saysChain(t, "turned about", []impl.Cert{l.chain[2], l.chain[1], l.chain[0]}, chainNow, 0, 2, 0)
	saysChain(t, "the last two turned about", []impl.Cert{l.chain[0], l.chain[2], l.chain[1]}, chainNow, 0, 2, 0)
	saysChain(t, "the leaf behind", append(slices.Clone(l.chain), l.chain[0]), chainNow, 0, 2, 2)
	saysWell(t, "the last two", l.chain[1:], chainNow, 0)
	saysWell(t, "the first two", l.chain[:2], chainNow, 0)
	root := l.turnedAt(2, func(c *impl.Cert) { c.Issuer = c.Subject })
	saysWell(t, "the last one, which is its own issuer, twice", append(slices.Clone(root.chain), root.chain[2]), chainNow, 0)
}
