package tests

import (
	"bytes"
	"fmt"
	"math"
	"slices"
	"strings"
	"testing"

	"loop.example/g00148/impl"
)

// guardedCert is a certificate with spare room behind each of its lists, and a way to tell whether one was written into.
type guardedCert struct {
	cert    impl.Cert
	touched func() bool
}

func guardCert(c impl.Cert) guardedCert {
	checks := []func() bool{}
	texts := func(list *[]string) {
		g := guard(*list, "room")
		*list, checks = g.list, append(checks, g.touched)
	}
	numbers := func(list *[]int) {
		g := guard(*list, roomMark)
		*list, checks = g.list, append(checks, g.touched)
	}
	x := &c.Exts
	for _, list := range []*[]string{&c.Issuer, &c.Subject, &x.Hosts, &x.Allow, &x.Deny} {
		texts(list)
	}
	numbers(&c.Key.N)
	numbers(&x.Purposes)
	room := append(slices.Clone(x.Nets), slices.Repeat([][]int{{1, 2, 3, 4}}, 20)...)
	for i := range room {
		numbers(&room[i])
	}
	was := slices.Clone(room)
	x.Nets = room[:len(x.Nets)]
	checks = append(checks, func() bool {
		return !slices.EqualFunc(room, was, func(a []int, b []int) bool { return len(a) == len(b) && (len(a) == 0 || &a[0] == &b[0]) })
	})
	sig := guard(c.Sig, roomMark)
	c.Sig, checks = sig.list, append(checks, sig.touched)
	return guardedCert{c, func() bool {
		return slices.ContainsFunc(checks, func(check func() bool) bool { return check() })
	}}
}

// memoryCerts are right and wrong ones.
func memoryCerts() []impl.Cert {
	s := turn(361)
	keys := keyOfEach()
	list := append(fewCerts(), greatestCert(), impl.Cert{}, with(func(c *impl.Cert) { c.Serial = 0 }), withExts(func(x *impl.Exts) { x.Purposes = []int{2, 1} }))
	for range 60 {
		list = append(list, s.someCert(keys))
	}
	return list
}

func TestCertsStandAlone(t *testing.T) {
	by := signers()[0].key
	for i, c := range memoryCerts() {
		what := fmt.Sprintf("certificate %d", i)
		g := guardCert(c)
		if impl.CertOk(g.cert) != impl.CertOk(c) || impl.Signed(g.cert, by) != impl.Signed(c, by) {
			t.Errorf("%s: spare room is read", what)
		}
		for _, write := range []func(c impl.Cert) ([]byte, bool){impl.Tbs, impl.WriteCert} {
			writesAlone(t, what, write, c, g.cert, g.touched)
		}
	}
}

// writesAlone holds what is written of a value against what is written of one that is guarded.
func writesAlone[V any](t *testing.T, what string, write func(value V) ([]byte, bool), plain V, guarded V, touched func() bool) {
	t.Helper()
	want, wantOk := write(plain)
	got, ok := write(guarded)
	if !bytes.Equal(got, want) || ok != wantOk {
		t.Errorf("%s: spare room is read: %x and %x", what, got, want)
	}
	spoil(got, spoilMark)
	if touched() {
		t.Errorf("%s: an argument was written into, or shares memory with an answer", what)
	}
	again, _ := write(guarded)
	sameHex(t, what+" a second time", again, want)
}

// A change of a certificate behind the call changes no bytes that were written of it.
func TestWrittenCertsStay(t *testing.T) {
	for _, c := range fewCerts() {
		c = filled(c)
		want := certNode(c).text()
		tbs, _ := impl.Tbs(c)
		text, _ := impl.WriteCert(c)
		c.Issuer[0], c.Subject[0], c.Sig[0] = "other", "other", c.Sig[0]+1
		for i := range c.Key.N {
			c.Key.N[i]++
		}
		for i := range c.Exts.Nets {
			c.Exts.Nets[i][0]++
		}
		sameHex(t, "after a change", text, want)
		sameHex(t, "after a change", tbs, nodeOf(firstItems(t, want)).kids[0].text())
	}
}

func firstItems(t *testing.T, text []byte) []impl.Item {
	t.Helper()
	list, code, _ := impl.ReadDer(text)
	if code != impl.DerWell {
		t.Fatalf("no tree: %x", text)
	}
	return list
}

// spoils are all lists of a certificate, each to be written over with all its room.
func spoils(c impl.Cert) []func() {
	x := c.Exts
	list := []func(){
		func() { spoil(c.Sig, spoilMark) }, func() { spoil(c.Key.N, spoilMark) }, func() { spoil(x.Purposes, spoilMark) },
	}
	for _, texts := range [][]string{c.Issuer, c.Subject, x.Hosts, x.Allow, x.Deny} {
		list = append(list, func() { spoil(texts, "spoilt") })
	}
	for _, a := range x.Nets {
		list = append(list, func() { spoil(a, spoilMark) })
	}
	return list
}

func TestReadCertsStandAlone(t *testing.T) {
	for i, c := range memoryCerts() {
		if !impl.CertOk(c) {
			continue
		}
		what := fmt.Sprintf("certificate %d", i)
		text := certNode(c).text()
		for _, mark := range []byte{0, 5, 48, 255} {
			g := guard(text, mark)
			got, code := impl.ReadCert(g.list)
			if code != impl.CertWell || !sameCert(got, c) || g.touched() {
				t.Errorf("%s: ReadCert reads or writes spare room: code %d", what, code)
			}
			spoil(g.list, 0)
			if !sameCert(got, c) {
				t.Errorf("%s: ReadCert shares memory with its argument", what)
			}
		}
		got, _ := impl.ReadCert(text)
		each := spoils(got)
		for j := range each {
			listsStandAlone(t, what, text, j)
		}
		sameHex(t, what+": its bytes", text, certNode(c).text())
		readsCert(t, what+" a second time", text, c)
	}
}

// listsStandAlone writes over one list of a certificate that is read, and looks that no other one has changed.
func listsStandAlone(t *testing.T, what string, text []byte, at int) {
	t.Helper()
	changed, _ := impl.ReadCert(text)
	want, _ := impl.ReadCert(text)
	spoils(changed)[at]()
	differ := 0
	for i := range spoils(want) {
		if !bytes.Equal(listText(changed, i), listText(want, i)) {
			differ++
		}
	}
	if differ > 1 {
		t.Errorf("%s: list %d shares memory with another one", what, at)
	}
}

// listText is what stands in the list that is written over at at.
func listText(c impl.Cert, at int) []byte {
	x := c.Exts
	lists := []any{c.Sig, c.Key.N, x.Purposes, c.Issuer, c.Subject, x.Hosts, x.Allow, x.Deny}
	for _, a := range x.Nets {
		lists = append(lists, a)
	}
	return fmt.Append(nil, lists[at])
}

func TestKeyTreesStandAlone(t *testing.T) {
	for _, k := range append(fewKeys(), impl.Key{}, rsaKey(many(1, 3), 3)) {
		n := guard(k.N, roomMark)
		guardedKey := k
		guardedKey.N = n.list
		want, wantOk := impl.KeyTree(k)
		got, ok := impl.KeyTree(guardedKey)
		sameItems(t, "KeyTree with spare room", got, want)
		if ok != wantOk || n.touched() {
			t.Errorf("KeyTree(%+v) reads or writes spare room", k)
		}
		bodiesStandAlone(t, "KeyTree", got, n.touched)
		got, _ = impl.KeyTree(guardedKey)
		sameItems(t, "KeyTree a second time", got, want)
	}
}

func TestReadKeyTreesStandAlone(t *testing.T) {
	lists := treeLists()[:40]
	for _, k := range fewKeys() {
		lists = append(lists, keyNode(k).items(), keyNode(k).items()[1:])
	}
	for _, list := range lists {
		want, wantOk := impl.ReadKeyTree(list)
		g := guardItems(list)
		got, ok := impl.ReadKeyTree(g.list)
		if ok != wantOk || ok && !impl.SameKey(got, want) {
			t.Errorf("ReadKeyTree reads spare room: %v", list)
		}
		spoil(got.N, spoilMark)
		if g.touched() {
			t.Errorf("ReadKeyTree wrote into its argument, or shares memory with it: %v", list)
		}
		got, _ = impl.ReadKeyTree(g.list)
		for _, item := range g.list {
			spoil(item.Body, spoilMark)
		}
		if ok && !impl.SameKey(got, want) {
			t.Errorf("ReadKeyTree keeps its argument: %v", list)
		}
	}
}

func TestNameSameStandsAlone(t *testing.T) {
	names := [][]string{nil, {}, {"a"}, {"A", " b"}, {"a ", "B"}, {"a", "b", "c"}}
	for _, a := range names {
		for _, b := range names {
			x, y := guard(a, "room"), guard(b, "room")
			if impl.NameSame(x.list, y.list) != impl.NameSame(a, b) || x.touched() || y.touched() {
				t.Errorf("NameSame(%q, %q) reads or writes spare room", a, b)
			}
		}
		one := guard(a, "room")
		if !impl.NameSame(one.list, one.list) || one.touched() {
			t.Errorf("NameSame of %q with itself", a)
		}
	}
}

// longCerts have one list or text that is very long.
func longCerts() map[string]impl.Cert {
	const size = 1 << 20
	text := strings.Repeat("a", 1<<24)
	texts, numbers := slices.Repeat([]string{"a"}, size), many(1, size)
	return map[string]impl.Cert{
		"Issuer": with(func(c *impl.Cert) { c.Issuer = texts }), "Subject": with(func(c *impl.Cert) { c.Subject = texts }), "a text": with(func(c *impl.Cert) { c.Issuer = []string{text} }),
		"N": with(func(c *impl.Cert) { c.Key = rsaKey(numbers, 3) }), "Sig": with(func(c *impl.Cert) { c.Sig = make([]byte, 1<<24) }),
		"Hosts": withExts(func(x *impl.Exts) { x.Hosts = texts }), "a host": withExts(func(x *impl.Exts) { x.Hosts = []string{text} }), "a star": withExts(func(x *impl.Exts) { x.Hosts = []string{"*." + text} }),
		"Nets": withExts(func(x *impl.Exts) { x.Nets = slices.Repeat([][]int{{1, 2, 3, 4}}, size) }), "an address": withExts(func(x *impl.Exts) { x.Nets = [][]int{numbers} }),
		"Allow": withExts(func(x *impl.Exts) { x.Allow = texts }), "Deny": withExts(func(x *impl.Exts) { x.Deny = texts }), "a bound": withExts(func(x *impl.Exts) { x.Deny = []string{text} }),
		"Purposes": withExts(func(x *impl.Exts) { x.Purposes = numbers }),
	}
}

func TestCertsEndSoon(t *testing.T) {
	by := rsaKey(many(65535, 32), 65537)
	for what, c := range longCerts() {
		endsSoon(t, what, func() { saysCert(t, "a long "+what, c, false) })
		endsSoon(t, what, func() { saysSigned(t, "a long "+what, c, by, false) })
	}
	c := greatestCert()
	c.Alg = impl.AlgRsa
	text := certNode(c).text()
	endsSoon(t, "the greatest", func() { certComesBack(t, "the greatest", c) })
	endsSoon(t, "Signed of the greatest", func() { impl.Signed(c, by) })
	for _, key := range someKeys()[:20] {
		endsSoon(t, "KeyTree", func() { readsKey(t, "as it is", keyNode(key).items(), key) })
	}
	endsSoon(t, "ReadCert of many bytes", func() { refusesCert(t, "long", make([]byte, 1<<24), impl.CertDer) })
	endsSoon(t, "ReadCert of what is behind", func() { refusesCert(t, "more", append(slices.Clone(text), make([]byte, 1<<20)...), impl.CertDer) })
	items := knot(48, leaves(impl.MaxItems-1)...)
	deep := wrapped(knot(48, leaves(impl.MaxItems-impl.MaxDeep-1)...), impl.MaxDeep-1)
	for _, n := range []node{items, deep, knot(48, deep.kids[0], leaf(3, 0))} {
		endsSoon(t, "ReadCert of many items", func() { refusesCert(t, "many", n.text(), impl.CertForm) })
		endsSoon(t, "ReadKeyTree of many items", func() { refusesKey(t, "many", n.items()) })
	}
	endsSoon(t, "ReadKeyTree of very many items", func() { refusesKey(t, "many", slices.Repeat([]impl.Item{{Tag: 48, Kids: 1}}, 1<<20)) })
	huge := slices.Repeat([]impl.Item{{Tag: 48, Kids: math.MaxInt}}, impl.MaxItems)
	endsSoon(t, "ReadKeyTree of huge Kids", func() { refusesKey(t, "huge", huge) })
}

func TestNameSameEndsSoon(t *testing.T) {
	for _, of := range []string{"a", " ", "A ", " a", "\xff", "é "} {
		long := strings.Repeat(of, 1<<21)
		endsSoon(t, "a long text", func() { saysSame(t, []string{long}, []string{" " + long + " "}, true) })
		endsSoon(t, "a long text and a short one", func() { saysSame(t, []string{long}, []string{"b"}, false) })
		texts := slices.Repeat([]string{of}, 1<<20)
		endsSoon(t, "many texts", func() { saysSame(t, texts, texts, true) })
		endsSoon(t, "one text more", func() { saysSame(t, texts, texts[1:], false) })
	}
}
