package tests

import (
	"bytes"
	"fmt"
	"slices"
	"testing"

	"loop.example/g00148/impl"
)

// readsAsItIs holds ReadCert against the strict reader, and says what the code should be.
func readsAsItIs(t *testing.T, what string, text []byte) int {
	t.Helper()
	list, code, _ := impl.ReadDer(text)
	if code != impl.DerWell {
		refusesCert(t, what, text, impl.CertDer)
		return impl.CertDer
	}
	want, right := strictly(nodeOf(list).cert)
	if !right {
		refusesCert(t, what, text, impl.CertForm)
		return impl.CertForm
	}
	readsCert(t, what, text, want)
	again, ok := impl.WriteCert(want)
	saysBytes(t, what+": WriteCert", again, ok, text)
	return impl.CertWell
}

// codesSeen counts codes, so that a test can tell that it has seen each.
type codesSeen map[int]int

func (c codesSeen) enough(t *testing.T, least int) {
	t.Helper()
	for _, code := range []int{impl.CertWell, impl.CertDer, impl.CertForm} {
		if c[code] < least {
			t.Errorf("code %d only %d times", code, c[code])
		}
	}
}

// smallCert is as short as can be with each of the five.
func smallCert() impl.Cert {
	c := fullCert()
	c.Issuer, c.Subject, c.Key = []string{"A"}, []string{"B"}, impl.Key{Kind: impl.KeyEd, Ed: smallEds()[0], A: one}
	c.Exts = impl.Exts{Ca: true, Path: 0, Usage: 1, Hosts: []string{"a"}, Nets: [][]int{{1, 2, 3, 4}}, Allow: []string{"a"}, Deny: []string{"b"}, Purposes: []int{1}}
	return c
}

// fewCerts are with each kind of key, with all of Exts or nothing.
func fewCerts() []impl.Cert {
	list := []impl.Cert{plainCert(), fullCert(), smallCert()}
	for i, key := range keyOfEach() {
		c := []impl.Cert{plainCert(), fullCert()}[i%2]
		c.Key = key
		list = append(list, c)
	}
	late := plainCert()
	late.From, late.To = timeShortMost, timeShortMost+1
	return append(list, late)
}

func TestReadCertOfEachOtherByte(t *testing.T) {
	seen := codesSeen{}
	for _, c := range []impl.Cert{plainCert(), smallCert()} {
		text := certNode(c).text()
		for at := range text {
			for _, b := range allBytes() {
				other := slices.Clone(text)
				other[at] = b
				seen[readsAsItIs(t, fmt.Sprintf("byte %d is %d", at, b), other)]++
			}
		}
	}
	seen.enough(t, 2000)
}

func TestReadCertOneByteAway(t *testing.T) {
	seen := codesSeen{}
	for _, c := range fewCerts() {
		text := certNode(c).text()
		for at := range text {
			for _, other := range otherTexts(text, at) {
				seen[readsAsItIs(t, fmt.Sprintf("one change at %d", at), other)]++
			}
		}
		for _, b := range allBytes() {
			refusesCert(t, "one more behind", append(slices.Clone(text), b), impl.CertDer)
		}
	}
	seen.enough(t, 1000)
}

func TestReadCertOneStepAway(t *testing.T) {
	seen := codesSeen{}
	for _, c := range fewCerts() {
		for _, other := range certNode(c).variants() {
			seen[readsAsItIs(t, "one step away", other.text())]++
		}
	}
	if seen[impl.CertWell] < 500 || seen[impl.CertForm] < 5000 {
		t.Errorf("seen: %v", seen)
	}
}

func TestReadCertTwoStepsAway(t *testing.T) {
	s := turn(341)
	seen := codesSeen{}
	for _, c := range fewCerts() {
		first := certNode(c).variants()
		for range 40 {
			second := first[s.below(len(first))].variants()
			for range 20 {
				seen[readsAsItIs(t, "two steps away", second[s.below(len(second))].text())]++
			}
		}
	}
	if seen[impl.CertWell] < 20 || seen[impl.CertForm] < 1000 {
		t.Errorf("seen: %v", seen)
	}
}

func TestReadCertOfNoTree(t *testing.T) {
	refusesCert(t, "no bytes", nil, impl.CertDer)
	refusesCert(t, "no bytes", []byte{}, impl.CertDer)
	text := certNode(fullCert()).text()
	for size := range text {
		refusesCert(t, fmt.Sprintf("%d bytes of it", size), text[:size], impl.CertDer)
	}
	long := make([]byte, impl.MaxDer+1)
	copy(long, text)
	refusesCert(t, "more than MaxDer bytes", long, impl.CertDer)
	refusesCert(t, "MaxDer bytes", long[:impl.MaxDer], impl.CertDer)
	refusesCert(t, "more than MaxItems items", knot(48, leaves(impl.MaxItems)...).text(), impl.CertDer)
	refusesCert(t, "too deep", wrapped(leaf(5), impl.MaxDeep+1).text(), impl.CertDer)
	refusesCert(t, "a Tag that is none", []byte{31, 0}, impl.CertDer)
	refusesCert(t, "a long length", []byte{48, 129, 0}, impl.CertDer)
	s := turn(342)
	for size := range 300 {
		readsAsItIs(t, "any bytes", s.someBytes(size))
	}
}

func TestReadCertOfAnotherTree(t *testing.T) {
	for _, n := range trees() {
		refusesCert(t, "another tree", n.text(), impl.CertForm)
	}
	// Of MaxDer bytes, and of one more.
	tbs := tbsNode(fullCert())
	size := impl.MaxDer - 4 - len(tbs.text()) - 4
	refusesCert(t, "just MaxDer bytes", knot(48, tbs, leaf(3, make([]byte, size)...)).text(), impl.CertForm)
	refusesCert(t, "MaxDer bytes and one", knot(48, tbs, leaf(3, make([]byte, size+1)...)).text(), impl.CertDer)
	if got := len(knot(48, tbs, leaf(3, make([]byte, size)...)).text()); got != impl.MaxDer {
		t.Errorf("%d bytes", got)
	}
}

// refusesForm wants a tree that is no certificate.
func refusesForm(t *testing.T, what string, n node) {
	t.Helper()
	refusesCert(t, what, n.text(), impl.CertForm)
}

// withPart is the certificate with what is signed changed.
func withPart(c impl.Cert, change func(kids []node) []node) node {
	n := certNode(c)
	n.kids[0] = knot(48, change(slices.Clone(n.kids[0].kids))...)
	return n
}

func TestReadCertOfPartsOutOfPlace(t *testing.T) {
	for _, c := range fewCerts() {
		n := certNode(c)
		kids := n.kids[0].kids
		for i := range kids {
			without := withPart(c, func(kids []node) []node { return slices.Delete(kids, i, i+1) })
			if i == 6 {
				plain := c
				plain.Exts = impl.Exts{Path: -1}
				readsCert(t, "without its Exts", without.text(), plain)
			} else {
				refusesForm(t, "an item left out", without)
			}
			refusesForm(t, "an item twice", withPart(c, func(kids []node) []node { return slices.Insert(kids, i, kids[i]) }))
			for j := range i {
				refusesSwapped(t, n, i, j)
			}
		}
		refusesForm(t, "an item too many", withPart(c, func(kids []node) []node { return append(kids, leaf(5)) }))
		refusesForm(t, "without Sig", knot(48, n.kids[0]))
		refusesForm(t, "Sig ahead", knot(48, n.kids[1], n.kids[0]))
		refusesForm(t, "Sig twice", knot(48, n.kids[0], n.kids[1], n.kids[1]))
		refusesForm(t, "what is signed alone", n.kids[0])
		refusesForm(t, "in another one", knot(48, n))
		refusesForm(t, "a list of another Tag", knot(49, n.kids...))
	}
}

// refusesSwapped has two items of what is signed in each other's place, where they are unlike.
func refusesSwapped(t *testing.T, n node, i int, j int) {
	t.Helper()
	kids := slices.Clone(n.kids[0].kids)
	kids[i], kids[j] = kids[j], kids[i]
	swapped := knot(48, knot(48, kids...), n.kids[1])
	if _, right := strictly(swapped.cert); right {
		// Both names can change places, and a small Serial and Alg.
		readsAsItIs(t, "in the other order", swapped.text())
		return
	}
	refusesForm(t, "in the other order", swapped)
}

// withExtsNode has another item in place of that of Tag 163, or behind.
func withExtsNode(items ...node) node {
	return withPart(plainCert(), func(kids []node) []node { return append(kids, items...) })
}

func withExtNodes(exts ...node) node {
	return withExtsNode(knot(163, knot(48, exts...)))
}

func TestReadCertOfWrongExts(t *testing.T) {
	of := extNodes(fullCert().Exts)
	refusesForm(t, "an empty item of Tag 163", withExtsNode(knot(163)))
	refusesForm(t, "an empty list in it", withExtNodes())
	refusesForm(t, "two lists in it", withExtsNode(knot(163, knot(48, of[0]), knot(48, of[1]))))
	refusesForm(t, "no list in it", withExtsNode(knot(163, of[0])))
	refusesForm(t, "a list of another Tag", withExtsNode(knot(163, knot(49, of[0]))))
	refusesForm(t, "two items of Tag 163", withExtsNode(knot(163, knot(48, of[0])), knot(163, knot(48, of[1]))))
	refusesForm(t, "the list alone", withExtsNode(knot(48, of...)))
	for _, tag := range []int{131, 160, 161, 162, 164, 35, 99, 227, 48} {
		if tag&32 == 0 {
			refusesForm(t, "a leaf", withExtsNode(leaf(tag, knot(48, of[0]).text()...)))
		} else {
			refusesForm(t, "another Tag", withExtsNode(knot(tag, knot(48, of[0]))))
		}
	}
	for i := range of {
		for j := range of {
			if j <= i {
				refusesForm(t, "out of order, or twice", withExtNodes(of[i], of[j]))
			} else {
				readsAsItIs(t, "in order", withExtNodes(of[i], of[j]).text())
			}
		}
		refusesForm(t, "without its number", withExtNodes(knot(48, of[i].kids[1])))
		refusesForm(t, "its number alone", withExtNodes(knot(48, of[i].kids[0])))
		refusesForm(t, "an item more", withExtNodes(knot(48, of[i].kids[0], of[i].kids[1], leaf(5))))
		refusesForm(t, "its number behind", withExtNodes(knot(48, of[i].kids[1], of[i].kids[0])))
		for _, number := range append(farNumbers(), 0, 6, 7, 128, 257) {
			refusesForm(t, "another number", withExtNodes(knot(48, intNode(number), of[i].kids[1])))
		}
		for number := 1; number <= 5; number++ {
			if number != i+1 {
				refusesForm(t, "another one's number", withExtNodes(knot(48, intNode(number), of[i].kids[1])))
			}
		}
	}
}

// oneExt has one extension, of that number.
func oneExt(number int, item node) node {
	return withExtNodes(knot(48, intNode(number), item))
}

func TestReadCertOfWrongCa(t *testing.T) {
	yes := leaf(1, 255)
	refusesForm(t, "nothing in it", oneExt(1, knot(48)))
	refusesForm(t, "Path without Ca", oneExt(1, knot(48, intNode(3))))
	refusesForm(t, "Path -1 written out", oneExt(1, knot(48, yes, intNode(-1))))
	refusesForm(t, "Path 11", oneExt(1, knot(48, yes, intNode(11))))
	refusesForm(t, "Path ahead", oneExt(1, knot(48, intNode(3), yes)))
	refusesForm(t, "two Paths", oneExt(1, knot(48, yes, intNode(3), intNode(3))))
	refusesForm(t, "a long Path", oneExt(1, knot(48, yes, leaf(2, 0, 3))))
	refusesForm(t, "an empty Path", oneExt(1, knot(48, yes, leaf(2))))
	refusesForm(t, "no list", oneExt(1, yes))
	for b := range 255 {
		refusesForm(t, "another byte", oneExt(1, knot(48, leaf(1, byte(b)), intNode(3))))
		refusesForm(t, "another byte", oneExt(1, knot(48, leaf(1, byte(b)))))
	}
	refusesForm(t, "no byte", oneExt(1, knot(48, leaf(1))))
	refusesForm(t, "two bytes", oneExt(1, knot(48, leaf(1, 255, 255))))
}

func TestReadCertOfWrongUsage(t *testing.T) {
	for b := range 256 {
		for free := range 10 {
			n := oneExt(2, leaf(3, byte(free), byte(b)))
			if free == 5 && b%32 == 0 && b > 0 {
				c := plainCert()
				c.Exts.Usage = b / 32
				readsCert(t, "Usage", n.text(), c)
			} else {
				refusesForm(t, fmt.Sprintf("bytes %d and %d", free, b), n)
			}
		}
	}
	refusesForm(t, "Usage 0 written out", oneExt(2, leaf(3, 5, 0)))
	refusesForm(t, "no bytes", oneExt(2, leaf(3)))
	refusesForm(t, "one byte", oneExt(2, leaf(3, 5)))
	refusesForm(t, "three bytes", oneExt(2, leaf(3, 5, 32, 0)))
	refusesForm(t, "as a number", oneExt(2, leaf(2, 1)))
	refusesForm(t, "as a list", oneExt(2, knot(48, leaf(3, 5, 32))))
}

func TestReadCertOfWrongHosts(t *testing.T) {
	host, net := leaf(130, 'a'), leaf(135, 1, 2, 3, 4)
	refusesForm(t, "nothing in it", oneExt(3, knot(48)))
	refusesForm(t, "an address ahead of a host", oneExt(3, knot(48, net, host)))
	refusesForm(t, "a host between addresses", oneExt(3, knot(48, host, net, host)))
	refusesForm(t, "an empty host", oneExt(3, knot(48, leaf(130))))
	refusesForm(t, "a capital letter", oneExt(3, knot(48, leaf(130, 'A'))))
	refusesForm(t, "bytes that are no rune", oneExt(3, knot(48, leaf(130, 'a', 255))))
	refusesForm(t, "a star ahead of one label", oneExt(3, knot(48, leaf(130, []byte("*.org")...))))
	refusesForm(t, "an address as a text", oneExt(3, knot(48, leaf(130, []byte("1.2.3.4")...))))
	refusesForm(t, "a list of hosts", oneExt(3, knot(48, knot(48, host))))
	refusesForm(t, "a host alone", oneExt(3, host))
	for size := range 20 {
		n := oneExt(3, knot(48, leaf(135, make([]byte, size)...)))
		if size == 4 {
			c := plainCert()
			c.Exts.Nets = [][]int{{0, 0, 0, 0}}
			readsCert(t, "an address", n.text(), c)
		} else {
			refusesForm(t, fmt.Sprintf("an address of %d bytes", size), n)
		}
	}
	for _, tag := range rightTags() {
		if tag != 130 && tag&32 == 0 {
			refusesForm(t, fmt.Sprintf("Tag %d", tag), oneExt(3, knot(48, leaf(tag, 'a'))))
		}
		if tag != 130 && tag != 135 && tag&32 == 0 {
			refusesForm(t, fmt.Sprintf("Tag %d", tag), oneExt(3, knot(48, host, leaf(tag, 1, 2, 3, 4))))
		}
	}
	for size := 1; size <= 12; size++ {
		readsAsItIs(t, "so many hosts", oneExt(3, knot(48, slices.Repeat([]node{host}, size)...)).text())
		readsAsItIs(t, "so many addresses", oneExt(3, knot(48, slices.Repeat([]node{net}, size)...)).text())
	}
}

func TestReadCertOfWrongBounds(t *testing.T) {
	host := leaf(130, 'a')
	allow, deny := knot(160, host), knot(161, host)
	refusesForm(t, "nothing in it", oneExt(4, knot(48)))
	refusesForm(t, "no Allow", oneExt(4, knot(48, knot(160), deny)))
	refusesForm(t, "no Deny", oneExt(4, knot(48, allow, knot(161))))
	refusesForm(t, "neither", oneExt(4, knot(48, knot(160), knot(161))))
	refusesForm(t, "no Allow alone", oneExt(4, knot(48, knot(160))))
	refusesForm(t, "Deny ahead", oneExt(4, knot(48, deny, allow)))
	refusesForm(t, "Allow twice", oneExt(4, knot(48, allow, allow)))
	refusesForm(t, "Deny twice", oneExt(4, knot(48, deny, deny)))
	refusesForm(t, "Allow between", oneExt(4, knot(48, allow, deny, allow)))
	refusesForm(t, "hosts alone", oneExt(4, knot(48, host)))
	refusesForm(t, "a star", oneExt(4, knot(48, knot(160, leaf(130, []byte("*.a.org")...)))))
	refusesForm(t, "an address", oneExt(4, knot(48, knot(161, leaf(135, 1, 2, 3, 4)))))
	refusesForm(t, "a text", oneExt(4, knot(48, knot(161, leaf(12, 'a')))))
	refusesForm(t, "a list", oneExt(4, knot(48, knot(161, knot(48, host)))))
	for _, tag := range rightTags() {
		if tag&32 != 0 && tag != 160 && tag != 161 {
			refusesForm(t, "another Tag", oneExt(4, knot(48, knot(tag, host))))
		}
	}
	for size := 1; size <= 12; size++ {
		readsAsItIs(t, "so many", oneExt(4, knot(48, knot(160, slices.Repeat([]node{host}, size)...))).text())
		readsAsItIs(t, "so many", oneExt(4, knot(48, allow, knot(161, slices.Repeat([]node{host}, size)...))).text())
	}
}

func TestReadCertOfWrongPurposes(t *testing.T) {
	refusesForm(t, "nothing in it", oneExt(5, knot(48)))
	refusesForm(t, "a number alone", oneExt(5, intNode(1)))
	refusesForm(t, "a long number", oneExt(5, knot(48, leaf(2, 0, 1))))
	refusesForm(t, "an empty number", oneExt(5, knot(48, leaf(2))))
	refusesForm(t, "that stand still", oneExt(5, knot(48, intNodes(1, 1)...)))
	refusesForm(t, "that fall", oneExt(5, knot(48, intNodes(2, 1)...)))
	refusesForm(t, "too many", oneExt(5, knot(48, intNodes(1, 2, 3, 4, 5, 6, 7)...)))
	for _, n := range append(farNumbers(), -1, 0, 1, 2, 999, 1000, 1001) {
		readsAsItIs(t, "a purpose", oneExt(5, knot(48, intNode(n))).text())
	}
}

// withTimes has other items in place of both times.
func withTimes(items ...node) node {
	return withPart(plainCert(), func(kids []node) []node {
		kids[3] = knot(48, items...)
		return kids
	})
}

func TestReadCertOfWrongTimes(t *testing.T) {
	early, late := timeNode(timeShortMost), timeNode(timeShortMost+1)
	shortLate := leaf(23, []byte(shortText(timeShortMost))...)
	c := plainCert()
	c.From, c.To = timeShortMost, timeShortMost+1
	readsCert(t, "on both sides of the end of 2049", withTimes(early, late).text(), c)
	refusesForm(t, "a long text where there is a short one", withTimes(leaf(24, []byte(longText(timeShortMost))...), late))
	refusesForm(t, "a long text of Tag 23", withTimes(early, leaf(23, late.body...)))
	refusesForm(t, "a short text of Tag 24", withTimes(early, leaf(24, early.body...)))
	refusesForm(t, "both of Tag 24 with short texts", withTimes(leaf(24, early.body...), leaf(24, early.body...)))
	refusesForm(t, "a short text of a year behind", withTimes(early, leaf(23, []byte("500101000000Z")...)))
	refusesForm(t, "the later one first", withTimes(late, early))
	refusesForm(t, "one time", withTimes(early))
	refusesForm(t, "no times", withTimes())
	refusesForm(t, "three times", withTimes(early, early, early))
	refusesForm(t, "an empty text", withTimes(early, leaf(23)))
	refusesForm(t, "a second 60", withTimes(leaf(23, []byte("491231235960Z")...), shortLate))
	refusesForm(t, "another end", withTimes(leaf(23, []byte("491231235959z")...), shortLate))
	refusesForm(t, "a list", withTimes(knot(48, early), late))
	for _, tag := range rightTags() {
		if tag != 23 && tag&32 == 0 {
			refusesForm(t, "another Tag", withTimes(leaf(tag, early.body...), late))
		}
	}
}

func TestReadCertOfWrongNumbersAndNames(t *testing.T) {
	put := func(at int, n node) node {
		return withPart(plainCert(), func(kids []node) []node {
			kids[at] = n
			return kids
		})
	}
	for _, n := range append(farNumbers(), -1, 0, 1, 2, 3, 4, 5, 127, 128, serialMost-1, serialMost, serialMost+1) {
		readsAsItIs(t, "Serial", put(0, intNode(n)).text())
		readsAsItIs(t, "Alg", put(1, intNode(n)).text())
	}
	for _, at := range []int{0, 1} {
		refusesForm(t, "a long number", put(at, leaf(2, 0, 1)))
		refusesForm(t, "an empty number", put(at, leaf(2)))
		refusesForm(t, "nine bytes", put(at, leaf(2, 1, 0, 0, 0, 0, 0, 0, 0, 1)))
		refusesForm(t, "another Tag", put(at, leaf(10, 1)))
		refusesForm(t, "a list", put(at, knot(48, intNode(1))))
	}
	for _, at := range []int{2, 4} {
		refusesForm(t, "no texts", put(at, knot(48)))
		refusesForm(t, "five texts", put(at, knot(48, textNodes(12, []string{"a", "b", "c", "d", "e"})...)))
		refusesForm(t, "an empty text", put(at, knot(48, leaf(12))))
		refusesForm(t, "a long text", put(at, knot(48, leaf(12, bytes.Repeat([]byte{'a'}, impl.MaxText+1)...))))
		refusesForm(t, "a text alone", put(at, leaf(12, 'a')))
		refusesForm(t, "another list", put(at, knot(49, leaf(12, 'a'))))
		for _, b := range allBytes() {
			readsAsItIs(t, "a byte", put(at, knot(48, leaf(12, 'a', b))).text())
		}
		for _, tag := range rightTags() {
			if tag != 12 && tag&32 == 0 {
				refusesForm(t, "another Tag", put(at, knot(48, leaf(tag, 'a'))))
			}
		}
	}
}

// eachWrongSig tells what is signed with an item behind it that is no signature.
func eachWrongSig(tbs node, says func(what string, n node)) {
	says("no byte 0", knot(48, tbs, leaf(3)))
	says("no Sig behind it", knot(48, tbs, leaf(3, 0)))
	says("65 bytes", knot(48, tbs, leaf(3, make([]byte, 66)...)))
	for first := 1; first < 256; first++ {
		says("another first byte", knot(48, tbs, leaf(3, byte(first), 1, 2)))
	}
	for _, tag := range rightTags() {
		if tag != 3 && tag&32 == 0 {
			says("another Tag", knot(48, tbs, leaf(tag, 0, 1, 2)))
		}
	}
	says("a list", knot(48, tbs, knot(48, leaf(3, 0, 1))))
}

func TestReadCertOfAWrongSig(t *testing.T) {
	tbs := tbsNode(plainCert())
	for size := range 70 {
		readsAsItIs(t, "so many bytes", knot(48, tbs, leaf(3, make([]byte, size)...)).text())
	}
	eachWrongSig(tbs, func(what string, n node) { refusesForm(t, what, n) })
}

func TestReadCertWithAWrongKey(t *testing.T) {
	put := func(n node) node {
		return withPart(plainCert(), func(kids []node) []node {
			kids[5] = n
			return kids
		})
	}
	seen := codesSeen{}
	for _, k := range fewKeys() {
		c := plainCert()
		c.Key = k
		readsCert(t, "a right key", put(keyNode(k)).text(), c)
		for _, other := range keyNode(k).variants() {
			seen[readsAsItIs(t, "a key one step away", put(other).text())]++
		}
	}
	if seen[impl.CertWell] < 300 || seen[impl.CertForm] < 5000 {
		t.Errorf("seen: %v", seen)
	}
}
