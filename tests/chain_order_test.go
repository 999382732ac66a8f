package tests

import (
	"fmt"
	"testing"

	"loop.example/g00148/impl"
)

// bothTurned has two changes; what is not signed is changed last.
func (l links) bothTurned(one chainTurn, at int, other chainTurn, otherAt int) []impl.Cert {
	for _, turn := range []struct {
		chainTurn
		at int
	}{{one, at}, {other, otherAt}} {
		if !turn.behind {
			l = l.turnedAt(turn.at, turn.change)
		}
	}
	return l.spoilt(func(chain []impl.Cert) {
		if one.behind {
			one.change(&chain[at])
		}
		if other.behind {
			other.change(&chain[otherAt])
		}
	})
}

// toldOfBoth is the first of two changes' faults that do not touch each other: the lesser code, then the lesser place.
func toldOfBoth(one chainTurn, at int, other chainTurn, otherAt int, last int) chainFault {
	faults := []chainFault{}
	if told := one.told(at, last); told != notAsked {
		faults = append(faults, chainFault{one.code, told})
	}
	if told := other.told(otherAt, last); told != notAsked {
		faults = append(faults, chainFault{other.code, told})
	}
	return leastFault(faults)
}

// Two faults at once, of each two kinds at each two places.
func TestTwoFaultsAtOnce(t *testing.T) {
	const size = 4
	l := quickLinks(size)
	turns := chainTurns()
	for _, one := range turns {
		for _, other := range turns {
			for at := range size {
				for otherAt := range size {
					what := fmt.Sprintf("%s at %d and %s at %d", one.name, at, other.name, otherAt)
					chain := l.bothTurned(one, at, other, otherAt)
					want := chainTold(chain, chainNow, turnPurpose)
					saysChain(t, what, chain, chainNow, turnPurpose, want.code, want.at)
					if at != otherAt && want != toldOfBoth(one, at, other, otherAt, size-1) {
						t.Errorf("%s: %v is told, which neither is", what, want)
					}
				}
			}
		}
	}
}

// One kind at two places: the least one, in chains of each length.
func TestOneKindAtTwoPlaces(t *testing.T) {
	for size := 2; size <= chainMost; size++ {
		l := quickLinks(size)
		for _, turn := range chainTurns() {
			for at := range size {
				for later := at + 1; later < size; later++ {
					want := toldOfBoth(turn, at, turn, later, size-1)
					chain := l.bothTurned(turn, later, turn, at)
					saysChain(t, fmt.Sprintf("%s at %d and %d", turn.name, at, later), chain, chainNow, turnPurpose, want.code, want.at)
				}
			}
		}
	}
}

// All kinds at once: as each first one is mended, the next kind in order is told.
func TestAllFaultsAtOnce(t *testing.T) {
	const size = 5
	wrong := func(codes int) []impl.Cert {
		has := func(code int) bool { return code >= codes }
		l := quickLinks(size).turned(func(chain []impl.Cert) {
			for at := range chain {
				breakAll(&chain[at], at, has)
			}
		})
		return l.spoilt(func(chain []impl.Cert) {
			for at := range chain {
				if has(impl.ChainSig) {
					chain[at].Sig = chain[at].Sig[1:]
				}
			}
		})
	}
	places := map[int]int{
		impl.ChainName: 0, impl.ChainSig: 0, impl.ChainTime: 0, impl.ChainCa: 1, impl.ChainPath: 2, impl.ChainUsage: 1, impl.ChainAllow: 0, impl.ChainPurpose: 0,
	}
	for code := impl.ChainName; code <= impl.ChainPurpose; code++ {
		chain := wrong(code)
		if !isChain(chain) {
			t.Fatalf("from %d on: no chain", code)
		}
		saysChain(t, fmt.Sprintf("from %d on", code), chain, chainNow, turnPurpose, code, places[code])
	}
	saysWell(t, "all mended", wrong(impl.ChainPurpose+1), chainNow, turnPurpose)
}

// breakAll breaks each rule that it is told of; where Ca has to be wrong, Path can't be, so that only odd places lack it.
func breakAll(c *impl.Cert, at int, has func(code int) bool) {
	x := &c.Exts
	if has(impl.ChainName) {
		c.Issuer = []string{"nobody"}
	}
	if has(impl.ChainTime) {
		c.To = chainNow - 1
	}
	if has(impl.ChainPath) && at > 0 {
		x.Path = 0
	}
	if has(impl.ChainCa) && at%2 == 1 {
		x.Ca, x.Path = false, -1
	}
	if has(impl.ChainUsage) {
		x.Usage = 4
	}
	if has(impl.ChainAllow) {
		x.Deny = []string{"org"}
	}
	if has(impl.ChainPurpose) {
		x.Purposes = []int{turnPurpose + 1}
	}
}
