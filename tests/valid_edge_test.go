package tests

import (
	"fmt"
	"math"
	"slices"
	"strings"
	"testing"

	"loop.example/g00148/impl"
)

var beyond = impl.Answer{Code: 1}

// textPlaces are the lists of a request that have texts.
func textPlaces(r *impl.Request) map[string]*[][]byte {
	return map[string]*[][]byte{"Pool": &r.Pool, "Anchors": &r.Anchors, "Lists": &r.Lists}
}

// copiedRequest shares no memory with r.
func copiedRequest(r impl.Request) impl.Request {
	r.Leaf, r.Except = slices.Clone(r.Leaf), slices.Clone(r.Except)
	for _, list := range textPlaces(&r) {
		*list = slices.Clone(*list)
		for i, text := range *list {
			(*list)[i] = slices.Clone(text)
		}
	}
	return r
}

// spoiltAt are requests with another text at each place that At counts.
func spoiltAt(r impl.Request, text []byte) map[int]impl.Request {
	all := map[int]impl.Request{}
	put := func(place int, into func(r *impl.Request)) {
		other := copiedRequest(r)
		into(&other)
		all[place] = other
	}
	put(0, func(r *impl.Request) { r.Leaf = text })
	for i := range r.Pool {
		put(1+i, func(r *impl.Request) { r.Pool[i] = text })
	}
	for i := range r.Anchors {
		put(1+len(r.Pool)+i, func(r *impl.Request) { r.Anchors[i] = text })
	}
	for i := range r.Lists {
		put(listPlace+i, func(r *impl.Request) { r.Lists[i] = text })
	}
	return all
}

// fullRequest has as many of each as can be, and is valid.
func fullRequest() impl.Request {
	a := sound(2)
	for len(a.pool) < poolMost {
		a.pool = append(a.pool, plainCert())
	}
	for len(a.anchors) < anchorsMost {
		a.anchors = append(a.anchors, plainCert())
	}
	for len(a.lists) < listsMost {
		a.lists = append(a.lists, plainCrl())
	}
	a.except = counted(100, exceptMost)
	return a.request()
}

// parseTold is what is told of a text that is neither, at a place.
func parseTold(place int, fault int) impl.Answer {
	if place >= listPlace {
		fault = 0
	}
	return impl.Answer{Code: 2, Fault: fault, At: place}
}

func TestTextsOfMaxDerBytes(t *testing.T) {
	tree := leafOf(derMost - 4).text()
	if len(tree) != derMost {
		t.Fatalf("%d bytes", len(tree))
	}
	for _, r := range []impl.Request{sound(2).request(), fullRequest()} {
		for place, other := range spoiltAt(r, tree) {
			saysAnswer(t, "a tree of MaxDer bytes", other, parseTold(place, 2))
		}
		for place, other := range spoiltAt(r, make([]byte, derMost)) {
			saysAnswer(t, "MaxDer bytes", other, parseTold(place, 1))
		}
		for _, size := range []int{derMost + 1, derMost + 2, 1 << 16} {
			for _, other := range spoiltAt(r, make([]byte, size)) {
				saysAnswer(t, fmt.Sprintf("%d bytes", size), other, beyond)
			}
		}
		for _, other := range spoiltAt(r, append(slices.Clone(r.Leaf), make([]byte, derMost)...)) {
			saysAnswer(t, "a certificate and many more bytes", other, beyond)
		}
	}
}

func TestAsManyAsCanBe(t *testing.T) {
	full, path := fullRequest(), sound(2).path()
	saysAnswer(t, "as many as can be", full, impl.Answer{Path: path})
	for what, change := range map[string]func(r *impl.Request){
		"Pool": func(r *impl.Request) { r.Pool = append(r.Pool, r.Pool[0]) }, "Anchors": func(r *impl.Request) { r.Anchors = append(r.Anchors, r.Anchors[0]) },
		"Lists": func(r *impl.Request) { r.Lists = append(r.Lists, r.Lists[0]) }, "Except": func(r *impl.Request) { r.Except = append(r.Except, 1) },
	} {
		r := copiedRequest(full)
		change(&r)
		saysAnswer(t, "one more of "+what, r, beyond)
		change(&r)
		saysAnswer(t, "two more of "+what, r, beyond)
	}
	for name := range textPlaces(&full) {
		for many := range 12 {
			r := copiedRequest(full)
			list := textPlaces(&r)[name]
			*list = slices.Repeat((*list)[:1], many)
			saysReckoned(t, fmt.Sprintf("%d of %s", many, name), r)
			*list = make([][]byte, many)
			saysReckoned(t, fmt.Sprintf("%d empty ones of %s", many, name), r)
		}
	}
	for many := range 25 {
		r := copiedRequest(full)
		r.Except = make([]int, many)
		want := impl.Answer{Path: path}
		if many > exceptMost {
			want = beyond
		}
		saysAnswer(t, fmt.Sprintf("%d of Except", many), r, want)
	}
}

func TestValidAtEachTime(t *testing.T) {
	always := func(c *impl.Cert) { c.From, c.To = timeLeast, timeMost }
	a := sound(1).turned(0, always).turned(1, always).turned(2, always)
	a.strict, a.except = false, []int{3}
	for _, now := range append(farOff(), timeLeast-1, timeLeast, timeLeast+1, -2, -1, 0, 1, chainNow, timeShortMost, timeShortMost+1, timeMost-1, timeMost, timeMost+1) {
		a.now = now
		want := beyond
		if isOne(now) {
			want = impl.Answer{Path: a.path()}
		}
		saysAnswer(t, fmt.Sprintf("at %d", now), a.request(), want)
	}
	late := sound(1)
	for _, now := range []int{timeLeast - 1, timeLeast, -1, 0, chainNow - 101, chainNow - 100, chainNow - 11, chainNow - 10, chainNow + 10, chainNow + 11, chainNow + 100, chainNow + 101, timeMost, timeMost + 1} {
		late.now = now
		saysReckoned(t, fmt.Sprintf("at %d", now), late.request())
	}
}

func TestValidForEachPurpose(t *testing.T) {
	a := sound(1)
	some := a.turned(0, func(c *impl.Cert) { c.Exts.Purposes = []int{1, 5, purposeMost} })
	for _, purpose := range append(farOff(), -2, -1, 0, 1, 2, 5, 6, purposeMost-1, purposeMost, purposeMost+1) {
		a.purpose, some.purpose = purpose, purpose
		what := fmt.Sprintf("for %d", purpose)
		switch {
		case !within(purpose, 0, purposeMost):
			saysAnswer(t, what, a.request(), beyond)
			saysAnswer(t, what, some.request(), beyond)
		case slices.Contains([]int{0, 1, 5, purposeMost}, purpose):
			saysAnswer(t, what, a.request(), impl.Answer{Path: a.path()})
			saysAnswer(t, what, some.request(), impl.Answer{Path: a.path()})
		default:
			saysAnswer(t, what, a.request(), impl.Answer{Path: a.path()})
			saysAnswer(t, what, some.request(), impl.Answer{Code: 3, Fault: 9})
		}
	}
}

// Each host that is one is asked of the leaf; what is neither a host nor an address is beyond the limits.
func TestValidForEachHost(t *testing.T) {
	a := sound(1)
	path := a.path()
	says := func(host string, want impl.Answer) {
		t.Helper()
		a.host = host
		saysAnswer(t, fmt.Sprintf("for %.90q", host), a.request(), want)
	}
	for _, host := range []string{"", "x.a.org", "d.c.b.org", "0.c.b.org", "xn--0.c.b.org", "y.org", "9.8.7.6", "11.0.0.1"} {
		says(host, impl.Answer{Path: path})
	}
	for _, host := range append(hosts(), "z.x.a.org", "a.org", "org", "c.b.org", "b.org", "e.d.c.b.org", "x.org", "y.org.org", "9.8.7.5", "9.8.7.7", "6.7.8.9", "0.0.0.0", "255.255.255.255", "11.0.0.0", "11.0.0.2") {
		if !slices.Contains([]string{"x.a.org"}, host) {
			says(host, impl.Answer{Code: 4, Path: path})
		}
	}
	for _, host := range append(wrongHosts(), "*.c.b.org", "X.A.ORG", "x.a.org.", " x.a.org", "9.8.7", "9.8.7.6.", "9.8.7.06", "09.8.7.6", "256.0.0.1", "9.8.7.6.5", "-9.8.7.6", "9,8,7,6", "1.2.3.4/5", strings.Repeat("a", 1000), strings.Repeat("a.", 1<<20), strings.Repeat("1.", 1<<20)) {
		if host != "" && addressOf(host) == nil {
			says(host, beyond)
		}
	}
}

// Which of the leaf's hosts it is says nothing; those of others are not asked.
func TestHostsOfTheLeafAlone(t *testing.T) {
	patterns := []string{"a.org", "*.c.b.org", "y.org", "*.e.d.org", "z.f.org", "*.x.y.z.org"}
	nets := [][]int{{1, 2, 3, 4}, {11, 0, 0, 1}, {255, 255, 255, 255}, {0, 0, 0, 0}, {193, 168, 0, 1}, {9, 0, 0, 0}}
	a := sound(1).turned(0, func(c *impl.Cert) { c.Exts.Hosts, c.Exts.Nets = patterns, nets })
	others := a.turned(1, func(c *impl.Cert) { c.Exts.Hosts, c.Exts.Nets = []string{"w.org"}, [][]int{{7, 7, 7, 7}} })
	others.except = []int{2}
	says := func(host string, code int) {
		t.Helper()
		a.host, others.host = host, host
		saysAnswer(t, "for "+host, a.request(), impl.Answer{Code: code, Path: a.path()})
		saysAnswer(t, "for "+host, others.request(), impl.Answer{Code: code, Path: a.path()})
	}
	for _, pattern := range patterns {
		host := strings.Replace(pattern, "*", "w", 1)
		says(host, 0)
		says("v."+host, 4)
		says("w"+host, map[bool]int{true: 0, false: 4}[pattern[0] == '*'])
		if pattern[0] == '*' {
			says(pattern[2:], 4)
		}
	}
	for _, net := range nets {
		says(addressText(net), 0)
		says(addressText([]int{net[0], net[1], net[2], net[3] ^ 128}), 4)
	}
	for _, host := range []string{"w.org", "7.7.7.7", "1.2.3.5", "4.3.2.1"} {
		says(host, 4)
	}
	bare := sound(0).turned(0, func(c *impl.Cert) { c.Exts.Hosts, c.Exts.Nets = nil, nil })
	bare.except = []int{1}
	for _, host := range []string{"x.a.org", "9.8.7.6", ""} {
		bare.host = host
		saysReckoned(t, "a leaf without hosts", bare.request())
	}
}

// A text that is none at each place, and two of them: the first one counts.
func TestParseAtEachPlace(t *testing.T) {
	cert, crl := certNode(plainCert()).text(), crlNode(plainCrl()).text()
	for _, r := range []impl.Request{sound(0).request(), sound(2).request(), fullRequest()} {
		for _, c := range []struct {
			text  []byte
			fault int
		}{{nil, 1}, {[]byte{}, 1}, {[]byte{48}, 1}, {[]byte{48, 0}, 2}, {cert[1:], 1}, {append(slices.Clone(cert), 0), 1}, {tbsNode(plainCert()).text(), 2}, {crlTbsNode(plainCrl()).text(), 2}} {
			for place, other := range spoiltAt(r, c.text) {
				saysAnswer(t, "none", other, parseTold(place, c.fault))
			}
		}
		for place, other := range spoiltAt(r, crl) {
			if place < listPlace {
				saysAnswer(t, "a list", other, parseTold(place, 2))
			}
		}
		for place, other := range spoiltAt(r, cert) {
			if place >= listPlace {
				saysAnswer(t, "a certificate", other, parseTold(place, 0))
			}
		}
		for place, other := range spoiltAt(r, []byte{48, 0}) {
			for second, both := range spoiltAt(other, []byte{48}) {
				want := parseTold(place, 2)
				if second <= place {
					want = parseTold(second, 1)
				}
				saysAnswer(t, fmt.Sprintf("at %d and at %d", place, second), both, want)
			}
		}
	}
}

func TestAllIsNone(t *testing.T) {
	saysAnswer(t, "nothing", impl.Request{}, impl.Answer{Code: 2, Fault: 1})
	r := fullRequest()
	for _, list := range textPlaces(&r) {
		for i := range *list {
			(*list)[i] = []byte{48, 0}
		}
	}
	saysAnswer(t, "the first of Pool", r, impl.Answer{Code: 2, Fault: 2, At: 1})
	r.Pool = nil
	saysAnswer(t, "the first of Anchors", r, impl.Answer{Code: 2, Fault: 2, At: 1})
	r.Anchors = nil
	saysAnswer(t, "the first of Lists", r, impl.Answer{Code: 2, At: listPlace})
	r.Lists = nil
	saysAnswer(t, "nobody vouches", r, impl.Answer{Code: 3, Fault: 2})
}

// One byte of one text is another one.
func TestRequestsOneByteAway(t *testing.T) {
	a, s := sound(1), turn(811)
	r := a.request()
	seen := answersSeen{}
	for range 400 {
		other := copiedRequest(r)
		all := slices.Concat([][]byte{other.Leaf}, other.Pool, other.Anchors, other.Lists)
		text := all[s.below(len(all))]
		text[s.below(len(text))] ^= 1 << s.below(8)
		seen[saysReckoned(t, "one byte away", other).Code]++
	}
	if seen[impl.ErrParse] < 50 || seen[impl.ErrPath] < 50 || seen[impl.ErrVoid] < 20 || seen[impl.OkValid] < 1 {
		t.Errorf("seen: %v", seen)
	}
}

// Each code that Best tells of a right request.
func TestPathCodes(t *testing.T) {
	for between := range betweenMost + 1 {
		a := sound(between)
		a.purpose = turnPurpose
		last := between + 1
		for _, turn := range brokenTurns() {
			for at := range last + 1 {
				b := a.turned(at, turn.change)
				// What rules the change breaks beside is not asked here.
				b.except, b.strict, b.host = counted(1, rulesMost), false, ""
				want := impl.Answer{Path: a.path()}
				if turn.told(at, last) != notAsked {
					want = impl.Answer{Code: 3, Fault: turn.code}
				}
				saysAnswer(t, fmt.Sprintf("%s at %d of %d", turn.name, at, last), b.request(), want)
			}
		}
		for what, change := range map[string]func(r *impl.Request){
			"no anchors": func(r *impl.Request) { r.Anchors = nil }, "the anchor in the pool": func(r *impl.Request) { r.Pool, r.Anchors = append(r.Pool, r.Anchors...), nil }, "another leaf": func(r *impl.Request) { r.Leaf = certNode(plainCert()).text() },
		} {
			r := a.request()
			change(&r)
			saysAnswer(t, what, r, impl.Answer{Code: 3, Fault: 2})
		}
	}
	seen := map[int]bool{2: true}
	for _, turn := range brokenTurns() {
		seen[turn.code] = true
	}
	if len(seen) != 7 {
		t.Errorf("seen: %v", seen)
	}
	saysAnswer(t, "too long a way", soundRow(slices.Repeat(soundSigners()[2:3], betweenMost+3)...).request(), impl.Answer{Code: 3, Fault: 2})
}

// Where several paths are there, the best one counts, whatever is said of it behind: no other one is asked.
func TestTheBestPathIsTheOnlyOne(t *testing.T) {
	p := soundFrom(0, 1)
	first, root := p.people[0], p.people[1]
	way := func(serial int, change func(c *impl.Cert)) impl.Cert {
		return issued(first, root, func(c *impl.Cert) { c.Serial, c.Exts.Usage = serial, 6 }, change)
	}
	a := p
	a.pool = []impl.Cert{way(70, toTime), way(71, noChange), way(72, noChange)}
	saysAnswer(t, "the second one", a.request(), impl.Answer{Path: []int{1, 0}})
	saysAnswer(t, "it is void", a.listed(listBy(root, 71)).request(), impl.Answer{Code: 5, Fault: 1, Path: []int{1, 0}, At: 1})
	saysAnswer(t, "others are void", a.listed(listBy(root, 70, 72)).request(), impl.Answer{Path: []int{1, 0}})
	a.pool[1] = way(71, func(c *impl.Cert) { c.Exts.Usage = 0 })
	saysAnswer(t, "it breaks a rule", a.request(), impl.Answer{Code: 6, Fault: 4, Path: []int{1, 0}, At: 1})
	a.pool[0] = way(70, noChange)
	saysAnswer(t, "the first one", a.request(), impl.Answer{Path: []int{0, 0}})
	saysAnswer(t, "the first one is void", a.listed(listBy(root, 70)).request(), impl.Answer{Code: 5, Fault: 1, Path: []int{0, 0}, At: 1})
}

// Void at each place, known or not, by what is strict.
func TestVoidAtEachPlace(t *testing.T) {
	for between := range betweenMost + 1 {
		a := sound(between)
		for at := range between + 1 {
			for _, strict := range []bool{false, true} {
				a.strict = strict
				what := fmt.Sprintf("at %d of %d, strict %v", at, between+1, strict)
				told := func(fault int) impl.Answer { return impl.Answer{Code: 5, Fault: fault, Path: a.path(), At: at} }
				saysAnswer(t, what, a.voided(at).request(), told(1))
				unknown := a
				unknown.lists = slices.Delete(slices.Clone(a.lists), at, at+1)
				want := impl.Answer{Path: a.path()}
				if strict {
					want = told(2)
				}
				saysAnswer(t, what+", not known", unknown.request(), want)
				for _, other := range counted(at+1, between-at) {
					saysAnswer(t, what+", and one behind", a.voided(other).voided(at).request(), told(1))
					if strict {
						saysAnswer(t, what+", not known, and one behind void", unknown.voided(other).request(), told(2))
					} else {
						saysAnswer(t, what+", not known, and one behind void", unknown.voided(other).request(), impl.Answer{Code: 5, Fault: 1, Path: a.path(), At: other})
					}
				}
			}
		}
	}
}

// The last one is trusted as it is: neither lists nor house rules are asked of it.
func TestTheAnchorIsTrusted(t *testing.T) {
	for between := range 3 {
		a := sound(between)
		last := a.people[between]
		saysAnswer(t, "on its own list", a.listed(listBy(last, firstSerial+between+1)).request(), impl.Answer{Path: a.path()})
		for what, change := range map[string]func(c *impl.Cert){
			"Serial": func(c *impl.Cert) { c.Serial = 1 }, "Usage": func(c *impl.Cert) { c.Exts.Usage = 0 }, "Hosts": func(c *impl.Cert) { c.Exts.Hosts = []string{"*.a.org", "*.a.org"} }, "Nets": func(c *impl.Cert) { c.Exts.Nets = [][]int{{10, 0, 0, 1}} },
		} {
			saysAnswer(t, what, a.turned(between+1, change).request(), impl.Answer{Path: a.path()})
		}
	}
}

// Lists that do not count: it is not known then, and only what is strict asks for that.
func TestListsThatDoNotCount(t *testing.T) {
	a := sound(0)
	who := a.people[0]
	for what, list := range map[string]impl.Crl{
		"over":      sealedCrl(impl.Crl{Issuer: who.name, From: chainNow - 9, To: chainNow - 1, Serials: []int{firstSerial}}, who.by),
		"not begun": sealedCrl(impl.Crl{Issuer: who.name, From: chainNow + 1, To: chainNow + 9, Serials: []int{firstSerial}}, who.by),
		"another":   listBy(party{[]string{"Hall"}, who.by}, firstSerial), "another key": listBy(party{who.name, otherSigner(who.by)}, firstSerial), "the leaf's": listBy(party{a.leaf.Subject, soundSigners()[0]}, firstSerial),
	} {
		a.lists, a.strict = []impl.Crl{list}, false
		saysAnswer(t, what, a.request(), impl.Answer{Path: a.path()})
		a.strict = true
		saysAnswer(t, what+", strict", a.request(), impl.Answer{Code: 5, Fault: 2, Path: a.path()})
		saysAnswer(t, what+", strict, and one that counts", a.listed(listBy(who)).request(), impl.Answer{Path: a.path()})
		saysAnswer(t, what+", strict, and one that voids", a.listed(listBy(who, firstSerial)).request(), impl.Answer{Code: 5, Fault: 1, Path: a.path()})
	}
	for usage := range usageMost + 1 {
		b := sound(0).turned(1, func(c *impl.Cert) { c.Exts.Usage = usage })
		saysReckoned(t, fmt.Sprintf("Usage %d", usage), b.request())
		saysReckoned(t, fmt.Sprintf("Usage %d, void", usage), b.voided(0).request())
	}
}

// houseBreaches are what each rule can be broken by at a place of a row but its last one; some break others beside.
func houseBreaches(at int) map[int]func(c *impl.Cert) {
	if at == 0 {
		each := breaches()
		each[1] = func(c *impl.Cert) { c.Exts.Hosts, c.Exts.Nets = nil, nil }
		each[12] = func(c *impl.Cert) { c.Subject = c.Issuer }
		return each
	}
	return map[int]func(c *impl.Cert){
		2: func(c *impl.Cert) { c.Exts.Hosts = []string{"a.org"} }, 4: func(c *impl.Cert) { c.Exts.Usage = 0 }, 8: func(c *impl.Cert) { c.Exts.Hosts = []string{"*.a.org"} },
		9: func(c *impl.Cert) { c.Exts.Nets = slices.Repeat([][]int{{1, 2, 3, 4}}, 2) }, 11: func(c *impl.Cert) { c.Serial = 63 }, 13: func(c *impl.Cert) { c.Exts.Hosts = []string{"xn--0.org"} }, 15: func(c *impl.Cert) { c.Exts.Nets = [][]int{{192, 168, 0, 1}} },
	}
}

// The least rule that is broken and not excepted, at each place.
func TestLintAtEachPlace(t *testing.T) {
	for between := range 4 {
		for at := range between + 1 {
			for rule, change := range houseBreaches(at) {
				a := sound(between).turned(at, change)
				a.strict, a.purpose, a.host = false, 0, ""
				broken := brokenBy(a.all()[at])
				if !slices.Contains(broken, rule) {
					t.Errorf("rule %d is not broken at %d: %v", rule, at, broken)
				}
				for n, except := range exceptsOf(broken) {
					a.except = except
					left := slices.DeleteFunc(slices.Clone(broken), func(rule int) bool { return slices.Contains(except, rule) })
					want := impl.Answer{Path: a.path()}
					if len(left) > 0 {
						want = impl.Answer{Code: 6, Fault: left[0], Path: a.path(), At: at}
					}
					saysAnswer(t, fmt.Sprintf("%v at %d of %d, set %d", broken, at, between+1, n), a.request(), want)
				}
			}
		}
	}
}

// exceptsOf are all sets of these rules, with others beside.
func exceptsOf(rules []int) [][]int {
	list := [][]int{nil, {}, {0, 16, -1, math.MaxInt, math.MinInt}}
	for _, set := range sets(len(rules)) {
		except := []int{12, 99}
		for _, n := range slices.Backward(set) {
			except = append(except, rules[n-1], rules[n-1])
		}
		list = append(list, except)
	}
	return list
}

// Several places break rules: the least place counts, whatever the rule.
func TestLintAtTheLeastPlace(t *testing.T) {
	a := sound(2).turned(0, breaches()[15]).turned(1, houseBreaches(1)[4]).turned(2, houseBreaches(2)[2])
	told := func(rule int, at int) impl.Answer { return impl.Answer{Code: 6, Fault: rule, Path: a.path(), At: at} }
	for what, c := range map[string]struct {
		except []int
		want   impl.Answer
	}{
		"none": {nil, told(15, 0)}, "the first": {[]int{15}, told(4, 1)}, "the second": {[]int{4}, told(15, 0)}, "the third": {[]int{2}, told(15, 0)},
		"the first two": {[]int{15, 4}, told(2, 2)}, "the first and the third": {[]int{2, 15}, told(4, 1)}, "all": {[]int{2, 4, 15}, impl.Answer{Path: a.path()}},
	} {
		a.except = c.except
		saysAnswer(t, what, a.request(), c.want)
		last := append(slices.Repeat([]int{0}, exceptMost-len(c.except)), c.except...)
		a.except = last
		saysAnswer(t, what+", as many as can be", a.request(), c.want)
	}
	many := sound(0).turned(0, breaches()[15], breaches()[8], breaches()[11], breaches()[3])
	many.strict = false
	for _, c := range []struct {
		except []int
		rule   int
	}{{nil, 3}, {[]int{3}, 8}, {[]int{8, 3}, 11}, {[]int{11, 8, 3}, 15}, {[]int{8, 11, 15}, 3}, {[]int{15, 3, 11}, 8}} {
		many.except = c.except
		saysAnswer(t, fmt.Sprintf("but for %v", c.except), many.request(), impl.Answer{Code: 6, Fault: c.rule, Path: []int{0}})
	}
}

// One text may stand at all places.
func TestOneTextAtManyPlaces(t *testing.T) {
	by := soundSigners()[0]
	who := party{[]string{"Hall", "own"}, by}
	own := certNode(issued(who, who, func(c *impl.Cert) { c.Exts.Usage = 6 })).text()
	for pool := range poolMost + 1 {
		r := impl.Request{Leaf: own, Pool: slices.Repeat([][]byte{own}, pool), Anchors: slices.Repeat([][]byte{own}, 1+pool%anchorsMost), Now: chainNow}
		saysAnswer(t, fmt.Sprintf("%d of one", pool), r, impl.Answer{Path: append(counted(0, min(pool, betweenMost)), 0)})
	}
}
