package tests

import (
	"bytes"
	"maps"
	"math/big"
	"reflect"
	"regexp"
	"slices"
	"testing"

	"loop.example/g00148/impl"
)

const (
	serialMost  = 1000000000000000
	textsMost   = 4
	sigMost     = 64
	pathMost    = 10
	usageMost   = 7
	purposeMost = 1000
)

var textForm = regexp.MustCompile(`^[ -~]{1,40}$`)

func isName(name []string) bool {
	return within(len(name), 1, textsMost) && !slices.ContainsFunc(name, func(text string) bool { return !textForm.MatchString(text) })
}

func isAddress(a []int) bool {
	return len(a) == 4 && !slices.ContainsFunc(a, func(n int) bool { return !within(n, 0, 255) })
}

// fewOf tells whether there are at most MaxHosts, each of them right.
func fewOf[E any](list []E, right func(E) bool) bool {
	return len(list) <= impl.MaxHosts && !slices.ContainsFunc(list, func(e E) bool { return !right(e) })
}

// extsFaults are the reasons for which x is none.
func extsFaults(x impl.Exts) []string {
	faults := []string{}
	fault := func(what string, is bool) {
		if is {
			faults = append(faults, what)
		}
	}
	isHost := func(s string) bool { return labelsOf(s) != nil }
	fault("Path", !within(x.Path, -1, pathMost) || !x.Ca && x.Path != -1)
	fault("Usage", !within(x.Usage, 0, usageMost))
	fault("Hosts", !fewOf(x.Hosts, func(s string) bool { return patternLabels(s) != nil }))
	fault("Nets", !fewOf(x.Nets, isAddress))
	fault("Allow", !fewOf(x.Allow, isHost))
	fault("Deny", !fewOf(x.Deny, isHost))
	fault("Purposes", !fewOf(x.Purposes, func(n int) bool { return within(n, 1, purposeMost) }))
	sorted := slices.Compact(slices.Sorted(slices.Values(x.Purposes)))
	fault("Purposes do not rise", !slices.Equal(sorted, x.Purposes))
	return faults
}

// certFaults are the reasons for which c is none.
func certFaults(c impl.Cert) []string {
	faults := extsFaults(c.Exts)
	fault := func(what string, is bool) {
		if is {
			faults = append(faults, what)
		}
	}
	fault("Serial", !within(c.Serial, 1, serialMost))
	fault("Issuer", !isName(c.Issuer))
	fault("Subject", !isName(c.Subject))
	fault("times", !isOne(c.From) || !isOne(c.To))
	fault("From above To", c.From > c.To)
	fault("Key", !impl.KeyOk(c.Key))
	fault("Alg", !within(c.Alg, 1, 4))
	fault("Sig", !within(len(c.Sig), 1, sigMost))
	return faults
}

func intNode(n int) node {
	return leaf(2, intText(n)...)
}

func intNodes(numbers ...int) []node {
	list := []node{}
	for _, n := range numbers {
		list = append(list, intNode(n))
	}
	return list
}

// bigNode is that of a number above 0.
func bigNode(n *big.Int) node {
	b := n.Bytes()
	if b[0] > 127 {
		b = append([]byte{0}, b...)
	}
	return leaf(2, b...)
}

func textNodes(tag int, texts []string) []node {
	list := []node{}
	for _, text := range texts {
		list = append(list, leaf(tag, []byte(text)...))
	}
	return list
}

func timeNode(t int) node {
	if t <= timeShortMost {
		return leaf(23, []byte(shortText(t))...)
	}
	return leaf(24, []byte(longText(t))...)
}

// keyNode is reckoned apart from the program, for a right key.
func keyNode(k impl.Key) node {
	switch k.Kind {
	case impl.KeyRsa:
		return knot(48, intNode(1), bigNode(bigOf(k.N)), intNode(k.E))
	case impl.KeyCurve:
		numbers := intNodes(2, k.Curve.P, k.Curve.A, k.Curve.B, k.Curve.N, k.Curve.GX, k.Curve.GY)
		return knot(48, append(numbers, leaf(3, append([]byte{0}, plainBytes(k.Q, false)...)...))...)
	}
	numbers := intNodes(3, k.Ed.P, k.Ed.D, k.Ed.L, k.Ed.BX, k.Ed.BY)
	return knot(48, append(numbers, leaf(3, append([]byte{0}, pairBytes(k.A.X, k.A.Y)...)...))...)
}

// extNodes are reckoned apart from the program.
func extNodes(x impl.Exts) []node {
	list := []node{}
	if x.Ca {
		item := knot(48, leaf(1, 255))
		if x.Path >= 0 {
			item.kids = append(item.kids, intNode(x.Path))
		}
		list = append(list, knot(48, intNode(1), item))
	}
	if x.Usage > 0 {
		list = append(list, knot(48, intNode(2), leaf(3, 5, byte(32*x.Usage))))
	}
	hosts := textNodes(130, x.Hosts)
	for _, a := range x.Nets {
		hosts = append(hosts, leaf(135, byte(a[0]), byte(a[1]), byte(a[2]), byte(a[3])))
	}
	if len(hosts) > 0 {
		list = append(list, knot(48, intNode(3), knot(48, hosts...)))
	}
	bounds := []node{}
	if len(x.Allow) > 0 {
		bounds = append(bounds, knot(160, textNodes(130, x.Allow)...))
	}
	if len(x.Deny) > 0 {
		bounds = append(bounds, knot(161, textNodes(130, x.Deny)...))
	}
	if len(bounds) > 0 {
		list = append(list, knot(48, intNode(4), knot(48, bounds...)))
	}
	if len(x.Purposes) > 0 {
		list = append(list, knot(48, intNode(5), knot(48, intNodes(x.Purposes...)...)))
	}
	return list
}

// tbsNode is reckoned apart from the program. It asks for no limits, so that it tells wrong certificates too.
func tbsNode(c impl.Cert) node {
	n := knot(48,
		intNode(c.Serial), intNode(c.Alg), knot(48, textNodes(12, c.Issuer)...),
		knot(48, timeNode(c.From), timeNode(c.To)), knot(48, textNodes(12, c.Subject)...), keyNode(c.Key))
	if told := extNodes(c.Exts); len(told) > 0 {
		n.kids = append(n.kids, knot(163, knot(48, told...)))
	}
	return n
}

func certNode(c impl.Cert) node {
	return knot(48, tbsNode(c), leaf(3, append([]byte{0}, c.Sig...)...))
}

// filled has nil for every empty list, as both are the same.
func filled(c impl.Cert) impl.Cert {
	x := &c.Exts
	for _, list := range []*[]string{&c.Issuer, &c.Subject, &x.Hosts, &x.Allow, &x.Deny} {
		*list = append([]string(nil), *list...)
	}
	c.Key.N, x.Purposes, c.Sig = append([]int(nil), c.Key.N...), append([]int(nil), x.Purposes...), append([]byte(nil), c.Sig...)
	nets := [][]int(nil)
	for _, a := range x.Nets {
		nets = append(nets, append([]int(nil), a...))
	}
	x.Nets = nets
	return c
}

func sameCert(a impl.Cert, b impl.Cert) bool {
	return reflect.DeepEqual(filled(a), filled(b))
}

func saysCert(t *testing.T, what string, c impl.Cert, want bool) {
	t.Helper()
	if got := impl.CertOk(c); got != want {
		t.Errorf("%s: CertOk(%+v): got %v, want %v", what, c, got, want)
	}
	if !want {
		b, ok := impl.Tbs(c)
		refused(t, what+": Tbs", b, ok)
		b, ok = impl.WriteCert(c)
		refused(t, what+": WriteCert", b, ok)
	}
}

// certComesBack holds a right certificate against its bytes, there and back.
func certComesBack(t *testing.T, what string, c impl.Cert) {
	t.Helper()
	if faults := certFaults(c); len(faults) > 0 {
		t.Fatalf("%s is no right certificate: %v", what, faults)
	}
	saysCert(t, what, c, true)
	tbs, ok := impl.Tbs(c)
	saysBytes(t, what+": Tbs", tbs, ok, tbsNode(c).text())
	text, ok := impl.WriteCert(c)
	saysBytes(t, what+": WriteCert", text, ok, certNode(c).text())
	readsCert(t, what, text, c)
}

func readsCert(t *testing.T, what string, text []byte, want impl.Cert) {
	t.Helper()
	if got, code := impl.ReadCert(text); code != impl.CertWell || !sameCert(got, want) {
		t.Errorf("%s: ReadCert of %x: got %+v and code %d, want %+v", what, text, got, code, want)
	}
}

func refusesCert(t *testing.T, what string, text []byte, want int) {
	t.Helper()
	if got, code := impl.ReadCert(text); code != want || !reflect.DeepEqual(filled(got), impl.Cert{}) {
		t.Errorf("%s: ReadCert of %x: got %+v and code %d, want nothing and %d", what, text, got, code, want)
	}
}

// plainCert has nothing in its Exts.
func plainCert() impl.Cert {
	return impl.Cert{
		Serial: 77, Issuer: []string{"Root", "Hall 1"}, Subject: []string{"Leaf"}, From: 0, To: 86400,
		Key: impl.Key{Kind: impl.KeyCurve, Curve: topCurve, Q: impl.Point{X: topCurve.GX, Y: topCurve.GY}}, Alg: impl.AlgPss, Exts: impl.Exts{Path: -1}, Sig: []byte{1, 2, 3},
	}
}

// fullCert has all that Exts can hold.
func fullCert() impl.Cert {
	c := plainCert()
	c.Exts = impl.Exts{
		Ca: true, Path: 3, Usage: 6, Hosts: []string{"a.org", "*.b.org"}, Nets: [][]int{{10, 0, 0, 1}, {255, 255, 255, 255}},
		Allow: []string{"a.org", "b.org"}, Deny: []string{"x.a.org"}, Purposes: []int{1, 2, 1000},
	}
	return c
}

// with is a right certificate, changed.
func with(change func(c *impl.Cert)) impl.Cert {
	c := fullCert()
	change(&c)
	return c
}

func withExts(change func(x *impl.Exts)) impl.Cert {
	return with(func(c *impl.Cert) { change(&c.Exts) })
}

// someKeys are of each kind and of many sizes.
func someKeys() []impl.Key {
	list := keyOfEach()
	families := keyFamilies()
	for _, what := range slices.Sorted(maps.Keys(families)) {
		list = append(list, families[what]...)
	}
	for _, by := range signers() {
		list = append(list, by.key)
	}
	s := turn(301)
	for _, k := range append(smallCurves(), greatCurves()...) {
		list = append(list, s.curveSecretOf(k).key())
	}
	for _, k := range allEds() {
		for _, a := range s.somePairs(k) {
			list = append(list, impl.Key{Kind: impl.KeyEd, Ed: k, A: a})
		}
	}
	for bits := 128; bits <= 512; bits++ {
		for _, n := range oddOf(bits) {
			list = append(list, rsaKey(n, 3+2*s.below(32768)))
		}
	}
	return list
}

func (s *turn) someOf(list []string) []string {
	some := []string{}
	for range s.below(impl.MaxHosts + 1) {
		some = append(some, list[s.below(len(list))])
	}
	return some
}

func (s *turn) someName() []string {
	name := []string{}
	for range 1 + s.below(textsMost) {
		text := []byte{}
		for range []int{1, 2, 1 + s.below(impl.MaxText), impl.MaxText}[s.below(4)] {
			text = append(text, byte(32+s.below(95)))
		}
		name = append(name, string(text))
	}
	return name
}

// someExts has each of what it can hold, or not.
func (s *turn) someExts() impl.Exts {
	x := impl.Exts{Path: -1}
	has := func() bool { return s.below(2) == 0 }
	if has() {
		x.Ca, x.Path = true, s.below(pathMost+2)-1
	}
	if has() {
		x.Usage = s.below(usageMost + 1)
	}
	if has() {
		x.Hosts = slices.DeleteFunc(s.someOf(patterns()), func(p string) bool { return patternLabels(p) == nil })
	}
	if has() {
		for range s.below(impl.MaxHosts + 1) {
			x.Nets = append(x.Nets, []int{s.below(256), s.below(256), s.below(256), s.below(256)})
		}
	}
	if has() {
		x.Allow = s.someOf(hosts())
	}
	if has() {
		x.Deny = s.someOf(hosts())
	}
	if has() {
		for range s.below(impl.MaxHosts + 1) {
			x.Purposes = append(x.Purposes, 1+s.below([]int{5, 200, purposeMost}[s.below(3)]))
		}
		slices.Sort(x.Purposes)
		x.Purposes = slices.Compact(x.Purposes)
	}
	return x
}

// someTimes are two, the lesser first; some of them at the edges.
func (s *turn) someTimes() (int, int) {
	edges := slices.DeleteFunc(append(edgeTimes(), timeShortMost+1), func(at int) bool { return !isOne(at) })
	pick := func() int {
		if s.below(2) == 0 {
			return edges[s.below(len(edges))]
		}
		return s.someTime(yearLeast + s.below(yearMost-yearLeast+1))
	}
	a, b := pick(), pick()
	return min(a, b), max(a, b)
}

func (s *turn) someCert(keys []impl.Key) impl.Cert {
	from, to := s.someTimes()
	return impl.Cert{
		Serial: []int{1, 127, 128, 1 + s.below(1<<31), (1 + s.below(1<<19)) * (1 + s.below(1<<30)), serialMost}[s.below(6)],
		Issuer: s.someName(), Subject: s.someName(), From: from, To: to,
		Key: keys[s.below(len(keys))], Alg: 1 + s.below(4), Exts: s.someExts(), Sig: s.someBytes(1 + s.below(sigMost)),
	}
}

// greatestCert has as many bytes as a right one can have.
func greatestCert() impl.Cert {
	text := string(bytes.Repeat([]byte{'~'}, impl.MaxText))
	name := slices.Repeat([]string{text}, textsMost)
	host := longHost(hostBytes)
	return impl.Cert{
		Serial: serialMost, Issuer: name, Subject: name, From: timeMost, To: timeMost,
		Key: rsaKey(many(65535, 32), 65537), Alg: impl.AlgEd, Sig: bytes.Repeat([]byte{255}, sigMost),
		Exts: impl.Exts{
			Ca: true, Path: pathMost, Usage: usageMost,
			Hosts: slices.Repeat([]string{"*." + host}, impl.MaxHosts), Nets: slices.Repeat([][]int{{255, 255, 255, 255}}, impl.MaxHosts),
			Allow: slices.Repeat([]string{host}, impl.MaxHosts), Deny: slices.Repeat([]string{host}, impl.MaxHosts),
			Purposes: []int{995, 996, 997, 998, 999, 1000},
		},
	}
}
