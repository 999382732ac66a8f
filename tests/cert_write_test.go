package tests

import (
	"bytes"
	"fmt"
	"slices"
	"testing"

	"loop.example/g00148/impl"
)

// eachOfExts has each of the five, with and without what it may lack.
func eachOfExts() map[string][]impl.Exts {
	host := []string{"a.org"}
	return map[string][]impl.Exts{
		"Ca":       {{Ca: true, Path: -1}, {Ca: true, Path: 0}, {Ca: true, Path: 5}, {Ca: true, Path: 10}},
		"Usage":    {{Path: -1, Usage: 1}, {Path: -1, Usage: 2}, {Path: -1, Usage: 4}, {Path: -1, Usage: 7}},
		"Hosts":    {{Path: -1, Hosts: host}, {Path: -1, Nets: [][]int{{0, 0, 0, 0}}}, {Path: -1, Hosts: []string{"*.a.org", "a.org"}, Nets: [][]int{{1, 2, 3, 4}, {255, 0, 255, 0}}}},
		"bounds":   {{Path: -1, Allow: host}, {Path: -1, Deny: host}, {Path: -1, Allow: host, Deny: []string{"b", "c"}}},
		"Purposes": {{Path: -1, Purposes: []int{1}}, {Path: -1, Purposes: []int{127, 128, 255, 256, 999, 1000}}},
	}
}

// together has what both have, where each has what the other one has not.
func together(a impl.Exts, b impl.Exts) impl.Exts {
	a.Ca, a.Path, a.Usage = a.Ca || b.Ca, max(a.Path, b.Path), a.Usage+b.Usage
	a.Hosts, a.Nets = append(a.Hosts, b.Hosts...), append(a.Nets, b.Nets...)
	a.Allow, a.Deny, a.Purposes = append(a.Allow, b.Allow...), append(a.Deny, b.Deny...), append(a.Purposes, b.Purposes...)
	return a
}

// allExts are all ways to have one or none of each of the five.
func allExts() []impl.Exts {
	list := []impl.Exts{{Path: -1}}
	five := eachOfExts()
	for _, what := range []string{"Ca", "Usage", "Hosts", "bounds", "Purposes"} {
		for _, x := range slices.Clone(list) {
			for _, more := range five[what] {
				list = append(list, together(x, more))
			}
		}
	}
	return list
}

func TestCertsWithAndWithoutEachOfExtsComeBack(t *testing.T) {
	list := allExts()
	if len(list) != 5*5*4*4*3 {
		t.Fatalf("%d ways", len(list))
	}
	keys := keyOfEach()
	for i, x := range list {
		c := plainCert()
		c.Exts, c.Key, c.Alg = x, keys[i%len(keys)], 1+i%4
		certComesBack(t, fmt.Sprintf("way %d", i), c)
	}
}

func TestCertsWithKeysOfEachKindComeBack(t *testing.T) {
	for i, key := range someKeys() {
		for j, c := range []impl.Cert{plainCert(), fullCert()} {
			c.Key, c.Alg = key, 1+(i+j)%4
			certComesBack(t, fmt.Sprintf("key %d", i), c)
		}
	}
}

func TestManyCertsComeBack(t *testing.T) {
	s := turn(331)
	keys := someKeys()
	texts := map[string]impl.Cert{}
	for i := range 4000 {
		c := s.someCert(keys)
		certComesBack(t, fmt.Sprintf("certificate %d by chance", i), c)
		text, _ := impl.WriteCert(c)
		if other, there := texts[string(text)]; there && !sameCert(c, other) {
			t.Errorf("%+v and %+v have one text", c, other)
		}
		texts[string(text)] = c
	}
}

func TestCertsAtTheEdgesComeBack(t *testing.T) {
	for _, serial := range []int{1, 127, 128, 255, 256, 32767, 32768, 1<<31 - 1, 1 << 31, 1 << 47, 1<<47 - 1, serialMost - 1, serialMost} {
		certComesBack(t, "Serial", with(func(c *impl.Cert) { c.Serial = serial }))
	}
	for size := 1; size <= sigMost; size++ {
		for _, b := range []byte{0, 1, 255} {
			certComesBack(t, "Sig", with(func(c *impl.Cert) { c.Sig = bytes.Repeat([]byte{b}, size) }))
		}
	}
	for size := 1; size <= impl.MaxText; size++ {
		text := string(bytes.Repeat([]byte{' '}, size))
		certComesBack(t, "a text", with(func(c *impl.Cert) { c.Issuer, c.Subject = []string{text, "~", text}, []string{text} }))
	}
	for path := -1; path <= pathMost; path++ {
		certComesBack(t, "Path", withExts(func(x *impl.Exts) { x.Path = path }))
	}
	for usage := range usageMost + 1 {
		certComesBack(t, "Usage", withExts(func(x *impl.Exts) { x.Usage = usage }))
	}
	for n := 1; n <= purposeMost; n++ {
		certComesBack(t, "a purpose", with(func(c *impl.Cert) { c.Exts = impl.Exts{Path: -1, Purposes: []int{n}} }))
	}
	for _, pattern := range slices.DeleteFunc(patterns(), func(s string) bool { return patternLabels(s) == nil }) {
		certComesBack(t, "a pattern", withExts(func(x *impl.Exts) { x.Hosts = []string{pattern, "a", pattern} }))
	}
	// Names, hosts and addresses may stand there twice.
	certComesBack(t, "twice", withExts(func(x *impl.Exts) {
		x.Hosts, x.Nets, x.Allow = []string{"a", "a"}, [][]int{{1, 1, 1, 1}, {1, 1, 1, 1}}, []string{"b", "b"}
	}))
}

func TestCertTimesComeBack(t *testing.T) {
	list := slices.DeleteFunc(append(edgeTimes(), timeShortMost-1, timeShortMost+1, timeShortMost+2), func(at int) bool { return !isOne(at) })
	for _, from := range list {
		for _, to := range list {
			if from <= to {
				certComesBack(t, fmt.Sprintf("%d to %d", from, to), with(func(c *impl.Cert) { c.From, c.To = from, to }))
			}
		}
	}
}

// holds wants a run of bytes in Tbs of a certificate.
func holds(t *testing.T, what string, c impl.Cert, run ...byte) {
	t.Helper()
	tbs, ok := impl.Tbs(c)
	if !ok || !bytes.Contains(tbs, run) {
		t.Errorf("%s: Tbs is %x %v, and does not hold %x", what, tbs, ok, run)
	}
}

func TestTbsByHand(t *testing.T) {
	key := impl.Key{Kind: impl.KeyEd, Ed: impl.Ed{P: 101, D: 12, L: 11, BX: 76, BY: 22}, A: impl.Pair{X: 76, Y: 22}}
	c := impl.Cert{Serial: 300, Issuer: []string{"A", "bc"}, Subject: []string{"D"}, From: 0, To: timeShortMost + 1, Key: key, Alg: impl.AlgCurve, Exts: impl.Exts{Path: -1}, Sig: []byte{9}}
	keyText := []byte{48, 24, 2, 1, 3, 2, 1, 101, 2, 1, 12, 2, 1, 11, 2, 1, 76, 2, 1, 22, 3, 4, 0, 22, 0, 0}
	want := slices.Concat(
		[]byte{2, 2, 1, 44, 2, 1, 3, 48, 7, 12, 1, 'A', 12, 2, 'b', 'c'},
		[]byte{48, 32, 23, 13}, []byte("700101000000Z"), []byte{24, 15}, []byte("20500101000000Z"),
		[]byte{48, 3, 12, 1, 'D'}, keyText)
	want = append([]byte{48, byte(len(want))}, want...)
	tbs, ok := impl.Tbs(c)
	saysBytes(t, "Tbs by hand", tbs, ok, want)
	text, ok := impl.WriteCert(c)
	saysBytes(t, "WriteCert by hand", text, ok, slices.Concat([]byte{48, byte(len(want) + 4)}, want, []byte{3, 2, 0, 9}))
}

func TestTbsOfExtsByHand(t *testing.T) {
	of := func(x impl.Exts) impl.Cert { return with(func(c *impl.Cert) { c.Exts = x }) }
	holds(t, "Ca", of(impl.Exts{Ca: true, Path: -1}), 163, 12, 48, 10, 48, 8, 2, 1, 1, 48, 3, 1, 1, 255)
	holds(t, "Ca, Path 0", of(impl.Exts{Ca: true, Path: 0}), 163, 15, 48, 13, 48, 11, 2, 1, 1, 48, 6, 1, 1, 255, 2, 1, 0)
	holds(t, "Ca, Path 10", of(impl.Exts{Ca: true, Path: 10}), 163, 15, 48, 13, 48, 11, 2, 1, 1, 48, 6, 1, 1, 255, 2, 1, 10)
	holds(t, "Usage 1", of(impl.Exts{Path: -1, Usage: 1}), 163, 11, 48, 9, 48, 7, 2, 1, 2, 3, 2, 5, 32)
	holds(t, "Usage 7", of(impl.Exts{Path: -1, Usage: 7}), 163, 11, 48, 9, 48, 7, 2, 1, 2, 3, 2, 5, 224)
	holds(t, "Hosts", of(impl.Exts{Path: -1, Hosts: []string{"a", "b.c"}}), 163, 17, 48, 15, 48, 13, 2, 1, 3, 48, 8, 130, 1, 'a', 130, 3, 'b', '.', 'c')
	holds(t, "Nets", of(impl.Exts{Path: -1, Nets: [][]int{{1, 0, 255, 4}}}), 163, 15, 48, 13, 48, 11, 2, 1, 3, 48, 6, 135, 4, 1, 0, 255, 4)
	holds(t, "Hosts and Nets", of(impl.Exts{Path: -1, Hosts: []string{"a"}, Nets: [][]int{{1, 2, 3, 4}}}), 163, 18, 48, 16, 48, 14, 2, 1, 3, 48, 9, 130, 1, 'a', 135, 4, 1, 2, 3, 4)
	holds(t, "Allow", of(impl.Exts{Path: -1, Allow: []string{"a"}}), 163, 14, 48, 12, 48, 10, 2, 1, 4, 48, 5, 160, 3, 130, 1, 'a')
	holds(t, "Deny", of(impl.Exts{Path: -1, Deny: []string{"a"}}), 163, 14, 48, 12, 48, 10, 2, 1, 4, 48, 5, 161, 3, 130, 1, 'a')
	holds(t, "both", of(impl.Exts{Path: -1, Allow: []string{"a"}, Deny: []string{"b", "c"}}), 163, 22, 48, 20, 48, 18, 2, 1, 4, 48, 13, 160, 3, 130, 1, 'a', 161, 6, 130, 1, 'b', 130, 1, 'c')
	holds(t, "Purposes", of(impl.Exts{Path: -1, Purposes: []int{1, 128}}), 163, 16, 48, 14, 48, 12, 2, 1, 5, 48, 7, 2, 1, 1, 2, 2, 0, 128)
	holds(t, "two of the five", of(impl.Exts{Path: -1, Usage: 2, Purposes: []int{3}}), 163, 21, 48, 19, 48, 7, 2, 1, 2, 3, 2, 5, 64, 48, 8, 2, 1, 5, 48, 3, 2, 1, 3)
}

// hasExts tells whether there is an item of Tag 163.
func hasExts(t *testing.T, text []byte) bool {
	t.Helper()
	list, code, _ := impl.ReadDer(text)
	if code != impl.DerWell {
		t.Errorf("no tree: %x", text)
	}
	return slices.ContainsFunc(list, func(item impl.Item) bool { return item.Tag == 163 })
}

func TestTbsWithNothingOfExts(t *testing.T) {
	for _, x := range []impl.Exts{{Path: -1}, {Path: -1, Hosts: []string{}, Nets: [][]int{}, Allow: []string{}, Deny: []string{}, Purposes: []int{}}} {
		c := plainCert()
		c.Exts = x
		tbs, _ := impl.Tbs(c)
		text, _ := impl.WriteCert(c)
		if hasExts(t, tbs) || hasExts(t, text) {
			t.Errorf("an item of Tag 163 with nothing in it: %x", text)
		}
		certComesBack(t, "nothing of Exts", c)
	}
	for what, list := range eachOfExts() {
		for _, x := range list {
			c := plainCert()
			c.Exts = x
			if tbs, _ := impl.Tbs(c); !hasExts(t, tbs) {
				t.Errorf("%s alone: no item of Tag 163", what)
			}
		}
	}
}

// No right certificate has MaxDer bytes: the greatest one has little more than half as many.
func TestTheGreatestCert(t *testing.T) {
	c := greatestCert()
	certComesBack(t, "the greatest", c)
	tbs, _ := impl.Tbs(c)
	text, _ := impl.WriteCert(c)
	if len(tbs) != 2086 || len(text) != 2157 || len(text) > impl.MaxDer {
		t.Errorf("the greatest has %d and %d bytes", len(tbs), len(text))
	}
	s := turn(332)
	keys := keyOfEach()
	for range 500 {
		if other, _ := impl.WriteCert(s.someCert(keys)); len(other) > len(text) {
			t.Errorf("one has %d bytes", len(other))
		}
	}
}

// Sig is not of what is signed; all else is.
func TestTbsIsAllButSig(t *testing.T) {
	want, _ := impl.Tbs(fullCert())
	tbs, ok := impl.Tbs(with(func(c *impl.Cert) { c.Sig = []byte{7, 7, 7, 7} }))
	saysBytes(t, "with another Sig", tbs, ok, want)
	changes := map[string]func(c *impl.Cert){
		"Serial": func(c *impl.Cert) { c.Serial++ }, "Alg": func(c *impl.Cert) { c.Alg++ }, "From": func(c *impl.Cert) { c.From++ }, "To": func(c *impl.Cert) { c.To++ },
		"Issuer": func(c *impl.Cert) { c.Issuer = []string{"Root", "hall 1"} }, "Subject": func(c *impl.Cert) { c.Subject = []string{"Leaf "} }, "names": func(c *impl.Cert) { c.Issuer, c.Subject = c.Subject, c.Issuer },
		"Key": func(c *impl.Cert) { c.Key.Q = otherSide(c.Key.Curve, c.Key.Q) }, "Ca": func(c *impl.Cert) { c.Exts.Ca, c.Exts.Path = false, -1 }, "Path": func(c *impl.Cert) { c.Exts.Path = -1 }, "Usage": func(c *impl.Cert) { c.Exts.Usage = 0 },
		"Hosts": func(c *impl.Cert) { c.Exts.Hosts = []string{"*.b.org", "a.org"} }, "Nets": func(c *impl.Cert) { c.Exts.Nets = c.Exts.Nets[1:] },
		"Allow": func(c *impl.Cert) { c.Exts.Allow = nil }, "Deny": func(c *impl.Cert) { c.Exts.Deny = nil }, "bounds": func(c *impl.Cert) { c.Exts.Allow, c.Exts.Deny = c.Exts.Deny, c.Exts.Allow }, "Purposes": func(c *impl.Cert) { c.Exts.Purposes = nil },
	}
	for what, change := range changes {
		if tbs, ok := impl.Tbs(with(change)); !ok || bytes.Equal(tbs, want) {
			t.Errorf("with another %s: Tbs is the same, or refused: %v", what, ok)
		}
	}
}
