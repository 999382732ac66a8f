package tests

import (
	"bytes"
	"fmt"
	"slices"
	"testing"

	"loop.example/g00148/impl"
)

// readsCrlAsItIs holds ReadCrl against the strict reader, and says whether there is a list.
func readsCrlAsItIs(t *testing.T, what string, text []byte) bool {
	t.Helper()
	list, code, _ := impl.ReadDer(text)
	if code != impl.DerWell {
		refusesCrl(t, what, text)
		return false
	}
	want, right := strictly(nodeOf(list).crl)
	if !right {
		refusesCrl(t, what, text)
		return false
	}
	readsCrl(t, what, text, want)
	again, ok := impl.WriteCrl(want)
	saysBytes(t, what+": WriteCrl", again, ok, text)
	return true
}

// fewCrls have no Serials, few and many, short times and long ones.
func fewCrls() []impl.Crl {
	return []impl.Crl{
		plainCrl(), greatestCrl(), withCrl(func(c *impl.Crl) { c.Serials = nil }), withCrl(func(c *impl.Crl) { c.Serials = []int{1} }),
		withCrl(func(c *impl.Crl) { c.From, c.To = timeShortMost, timeShortMost+1 }), withCrl(func(c *impl.Crl) { c.Serials = counted(1, voidMost) }),
		{Issuer: []string{"A"}, From: 5, To: 5, Alg: impl.AlgRsa, Sig: []byte{0}},
	}
}

func TestReadCrlOfEachOtherByte(t *testing.T) {
	seen := tally{}
	for _, c := range []impl.Crl{plainCrl(), fewCrls()[6]} {
		text := crlNode(c).text()
		for at := range text {
			for _, b := range allBytes() {
				other := slices.Clone(text)
				other[at] = b
				seen.count(readsCrlAsItIs(t, fmt.Sprintf("byte %d is %d", at, b), other))
			}
		}
	}
	seen.enough(t, 2000)
}

func TestReadCrlOneByteAway(t *testing.T) {
	seen := tally{}
	for _, c := range fewCrls() {
		text := crlNode(c).text()
		for at := range text {
			for _, other := range otherTexts(text, at) {
				seen.count(readsCrlAsItIs(t, fmt.Sprintf("one change at %d", at), other))
			}
			refusesCrl(t, "a byte fewer", slices.Delete(slices.Clone(text), at, at+1))
			refusesCrl(t, "the beginning", text[:at])
			refusesCrl(t, "the end", text[at+1:])
		}
		for _, b := range allBytes() {
			refusesCrl(t, "one more behind", append(slices.Clone(text), b))
			refusesCrl(t, "one more ahead", append([]byte{b}, text...))
		}
	}
	seen.enough(t, 1000)
}

func TestReadCrlOneStepAway(t *testing.T) {
	seen := tally{}
	for _, c := range fewCrls() {
		for _, other := range crlNode(c).variants() {
			seen.count(readsCrlAsItIs(t, "one step away", other.text()))
		}
	}
	seen.enough(t, 1000)
}

func TestReadCrlTwoStepsAway(t *testing.T) {
	s := turn(631)
	seen := tally{}
	for _, c := range fewCrls() {
		first := crlNode(c).variants()
		for range 40 {
			second := first[s.below(len(first))].variants()
			for range 20 {
				seen.count(readsCrlAsItIs(t, "two steps away", second[s.below(len(second))].text()))
			}
		}
	}
	seen.enough(t, 100)
}

func TestReadCrlOfOtherBytes(t *testing.T) {
	refusesCrl(t, "no bytes", nil)
	refusesCrl(t, "no bytes", []byte{})
	for _, c := range append(fewCerts(), greatestCert()) {
		refusesCrl(t, "a certificate", certNode(c).text())
		refusesCrl(t, "what is signed of a certificate", tbsNode(c).text())
	}
	for _, c := range fewCrls() {
		refusesCert(t, "a list is no certificate", crlNode(c).text(), impl.CertForm)
		refusesCrl(t, "what is signed", crlTbsNode(c).text())
	}
	for _, n := range trees() {
		refusesCrl(t, "another tree", n.text())
	}
	text := crlNode(plainCrl()).text()
	long := make([]byte, impl.MaxDer+1)
	copy(long, text)
	refusesCrl(t, "more than MaxDer bytes", long)
	refusesCrl(t, "MaxDer bytes", long[:impl.MaxDer])
	refusesCrl(t, "too deep", wrapped(crlNode(plainCrl()), impl.MaxDeep+1).text())
	refusesCrl(t, "a Tag that is none", []byte{31, 0})
	s := turn(632)
	for size := range 300 {
		readsCrlAsItIs(t, "any bytes", s.someBytes(size))
	}
}

func refusesCrlForm(t *testing.T, what string, n node) {
	t.Helper()
	refusesCrl(t, what, n.text())
}

// crlWithPart is a list with what is signed changed.
func crlWithPart(c impl.Crl, change func(kids []node) []node) node {
	n := crlNode(c)
	return knot(48, knot(48, change(slices.Clone(n.kids[0].kids))...), n.kids[1])
}

func TestReadCrlOfPartsOutOfPlace(t *testing.T) {
	for _, c := range fewCrls() {
		n := crlNode(c)
		for i := range n.kids[0].kids {
			refusesCrlForm(t, "an item left out", crlWithPart(c, func(kids []node) []node { return slices.Delete(kids, i, i+1) }))
			refusesCrlForm(t, "an item twice", crlWithPart(c, func(kids []node) []node { return slices.Insert(kids, i, kids[i]) }))
			for j := range i {
				refusesCrlForm(t, "in the other order", crlWithPart(c, func(kids []node) []node {
					kids[i], kids[j] = kids[j], kids[i]
					return kids
				}))
			}
		}
		refusesCrlForm(t, "an item too many", crlWithPart(c, func(kids []node) []node { return append(kids, leaf(5)) }))
		refusesCrlForm(t, "a list too many", crlWithPart(c, func(kids []node) []node { return append(kids, knot(48)) }))
		refusesCrlForm(t, "without Sig", knot(48, n.kids[0]))
		refusesCrlForm(t, "Sig ahead", knot(48, n.kids[1], n.kids[0]))
		refusesCrlForm(t, "Sig twice", knot(48, n.kids[0], n.kids[1], n.kids[1]))
		refusesCrlForm(t, "what is signed twice", knot(48, n.kids[0], n.kids[0]))
		refusesCrlForm(t, "in another one", knot(48, n))
		refusesCrlForm(t, "a list of another Tag", knot(49, n.kids...))
		refusesCrlForm(t, "what is signed of another Tag", knot(48, knot(49, n.kids[0].kids...), n.kids[1]))
		refusesCrlForm(t, "nothing in it", knot(48))
		refusesCrlForm(t, "a leaf", leaf(16, n.text()[2:]...))
	}
}

// crlPut has another item in one place of what is signed.
func crlPut(at int, n node) node {
	return crlWithPart(plainCrl(), func(kids []node) []node {
		kids[at] = n
		return kids
	})
}

func TestReadCrlOfWrongAlg(t *testing.T) {
	for _, n := range append(farNumbers(), -1, 0, 1, 2, 3, 4, 5, 127, 128, 257) {
		if readsCrlAsItIs(t, "Alg", crlPut(0, intNode(n)).text()) != within(n, 1, 4) {
			t.Errorf("Alg %d: read or refused", n)
		}
	}
	refusesCrlForm(t, "a long number", crlPut(0, leaf(2, 0, 1)))
	refusesCrlForm(t, "an empty number", crlPut(0, leaf(2)))
	refusesCrlForm(t, "nine bytes", crlPut(0, leaf(2, 0, 0, 0, 0, 0, 0, 0, 0, 1)))
	refusesCrlForm(t, "another Tag", crlPut(0, leaf(10, 1)))
	refusesCrlForm(t, "a list", crlPut(0, knot(48, intNode(1))))
}

func TestReadCrlOfWrongNames(t *testing.T) {
	refusesCrlForm(t, "no texts", crlPut(1, knot(48)))
	refusesCrlForm(t, "five texts", crlPut(1, knot(48, textNodes(12, []string{"a", "b", "c", "d", "e"})...)))
	refusesCrlForm(t, "an empty text", crlPut(1, knot(48, leaf(12))))
	refusesCrlForm(t, "a long text", crlPut(1, knot(48, leaf(12, bytes.Repeat([]byte{'a'}, impl.MaxText+1)...))))
	refusesCrlForm(t, "a text alone", crlPut(1, leaf(12, 'a')))
	refusesCrlForm(t, "another list", crlPut(1, knot(49, leaf(12, 'a'))))
	for _, b := range allBytes() {
		if readsCrlAsItIs(t, "a byte", crlPut(1, knot(48, leaf(12, 'a', b))).text()) != within(int(b), 32, 126) {
			t.Errorf("a byte %d: read or refused", b)
		}
	}
	for _, tag := range rightTags() {
		if tag != 12 && tag&32 == 0 {
			refusesCrlForm(t, "another Tag", crlPut(1, knot(48, leaf(tag, 'a'))))
		}
	}
}

func TestReadCrlOfWrongTimes(t *testing.T) {
	times := func(items ...node) node { return crlPut(2, knot(48, items...)) }
	early, late := timeNode(timeShortMost), timeNode(timeShortMost+1)
	readsCrl(t, "on both sides of the end of 2049", times(early, late).text(), withCrl(func(c *impl.Crl) { c.From, c.To = timeShortMost, timeShortMost+1 }))
	refusesCrlForm(t, "a long text where there is a short one", times(leaf(24, []byte(longText(timeShortMost))...), late))
	refusesCrlForm(t, "a long text of Tag 23", times(early, leaf(23, late.body...)))
	refusesCrlForm(t, "a short text of Tag 24", times(leaf(24, early.body...), late))
	refusesCrlForm(t, "the later one first", times(late, early))
	refusesCrlForm(t, "one time", times(early))
	refusesCrlForm(t, "no times", times())
	refusesCrlForm(t, "three times", times(early, early, early))
	refusesCrlForm(t, "an empty text", times(early, leaf(23)))
	refusesCrlForm(t, "a second 60", times(leaf(23, []byte("491231235960Z")...), late))
	refusesCrlForm(t, "a list", times(knot(48, early), late))
	refusesCrlForm(t, "numbers", times(intNodes(0, 5)...))
	for _, tag := range rightTags() {
		if tag != 23 && tag&32 == 0 {
			refusesCrlForm(t, "another Tag", times(leaf(tag, early.body...), late))
		}
	}
}

func TestReadCrlOfWrongSerials(t *testing.T) {
	serials := func(items ...node) node { return crlPut(3, knot(48, items...)) }
	for many := range 2 * voidMost {
		if readsCrlAsItIs(t, "so many", serials(intNodes(counted(1, many)...)...).text()) != (many <= voidMost) {
			t.Errorf("%d Serials: read or refused", many)
		}
	}
	for _, n := range append(farNumbers(), -1, 0, 1, 2, serialMost-1, serialMost, serialMost+1) {
		if readsCrlAsItIs(t, "a Serial", serials(intNode(n)).text()) != within(n, 1, serialMost) {
			t.Errorf("Serial %d: read or refused", n)
		}
	}
	refusesCrlForm(t, "that stand still", serials(intNodes(1, 1)...))
	refusesCrlForm(t, "that fall", serials(intNodes(2, 1)...))
	refusesCrlForm(t, "a long number", serials(leaf(2, 0, 1)))
	refusesCrlForm(t, "an empty number", serials(leaf(2)))
	refusesCrlForm(t, "another Tag", serials(leaf(10, 1)))
	refusesCrlForm(t, "a list", serials(knot(48, intNode(1))))
	refusesCrlForm(t, "a number alone", crlPut(3, intNode(1)))
	refusesCrlForm(t, "another list", crlPut(3, knot(49, intNode(1))))
	refusesCrlForm(t, "very many", serials(intNodes(counted(1, 250)...)...))
}

func TestReadCrlOfAWrongSig(t *testing.T) {
	tbs := crlTbsNode(plainCrl())
	for size := range 70 {
		readsCrlAsItIs(t, "so many bytes", knot(48, tbs, leaf(3, make([]byte, size)...)).text())
	}
	eachWrongSig(tbs, func(what string, n node) { refusesCrlForm(t, what, n) })
}
