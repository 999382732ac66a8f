package tests

import (
	"bytes"
	"fmt"
	"slices"
	"testing"

	"loop.example/g00148/impl"
)

func TestManyCrlsComeBack(t *testing.T) {
	s := turn(621)
	texts := map[string]impl.Crl{}
	for i := range 4000 {
		c := s.someCrl()
		crlComesBack(t, fmt.Sprintf("list %d by chance", i), c)
		text, _ := impl.WriteCrl(c)
		if other, there := texts[string(text)]; there && !sameCrl(c, other) {
			t.Errorf("%+v and %+v have one text", c, other)
		}
		texts[string(text)] = c
	}
}

func TestSignedCrlsComeBack(t *testing.T) {
	s := turn(622)
	for _, by := range allSigners() {
		r := newRegister(by)
		for range 5 {
			c := sealedCrl(s.someCrl(), by)
			crlComesBack(t, by.name, c)
		}
		text, _ := impl.WriteCrl(r.list(s.someSerials(voidMost)...))
		again, ok := impl.ReadCrl(text)
		if !ok {
			t.Errorf("%s: a signed list is not read", by.name)
		}
		saysCrlSigned(t, by.name+", from its bytes", again, r.issuer, true)
	}
}

func TestCrlsAtTheEdgesComeBack(t *testing.T) {
	for many := range voidMost + 1 {
		for _, first := range []int{1, 110, 240, 32760, 1<<31 - 5, 1<<47 - 5, serialMost - many + 1} {
			crlComesBack(t, fmt.Sprintf("%d Serials from %d", many, first), withCrl(func(c *impl.Crl) { c.Serials = counted(first, many) }))
		}
	}
	for size := 1; size <= sigMost; size++ {
		for _, b := range []byte{0, 1, 255} {
			crlComesBack(t, "Sig", withCrl(func(c *impl.Crl) { c.Sig = bytes.Repeat([]byte{b}, size) }))
		}
	}
	for size := 1; size <= impl.MaxText; size++ {
		text := string(bytes.Repeat([]byte{' '}, size))
		crlComesBack(t, "a text", withCrl(func(c *impl.Crl) { c.Issuer = []string{text, "~", text} }))
	}
	for alg := impl.AlgRsa; alg <= impl.AlgEd; alg++ {
		crlComesBack(t, "Alg", withCrl(func(c *impl.Crl) { c.Alg = alg }))
	}
}

func TestCrlTimesComeBack(t *testing.T) {
	list := slices.DeleteFunc(append(edgeTimes(), timeShortMost-1, timeShortMost+1, timeShortMost+2), func(at int) bool { return !isOne(at) })
	for _, from := range list {
		for _, to := range list {
			if from <= to {
				crlComesBack(t, fmt.Sprintf("%d to %d", from, to), withCrl(func(c *impl.Crl) { c.From, c.To = from, to }))
			}
		}
	}
}

func TestCrlsByHand(t *testing.T) {
	c := impl.Crl{Issuer: []string{"A", "bc"}, From: 0, To: timeShortMost + 1, Alg: impl.AlgCurve, Serials: []int{1, 128, 300, serialMost}, Sig: []byte{9}}
	of := func(serials ...byte) []byte {
		want := slices.Concat(
			[]byte{2, 1, 3, 48, 7, 12, 1, 'A', 12, 2, 'b', 'c'},
			[]byte{48, 32, 23, 13}, []byte("700101000000Z"), []byte{24, 15}, []byte("20500101000000Z"),
			[]byte{48, byte(len(serials))}, serials)
		return append([]byte{48, byte(len(want))}, want...)
	}
	says := func(what string, want []byte) {
		t.Helper()
		tbs, ok := impl.CrlTbs(c)
		saysBytes(t, what+": CrlTbs", tbs, ok, want)
		text, ok := impl.WriteCrl(c)
		saysBytes(t, what+": WriteCrl", text, ok, slices.Concat([]byte{48, byte(len(want) + 4)}, want, []byte{3, 2, 0, 9}))
	}
	says("some Serials", of(2, 1, 1, 2, 2, 0, 128, 2, 2, 1, 44, 2, 7, 3, 141, 126, 164, 198, 128, 0))
	c.Serials = nil
	says("no Serials", of())
	c.Serials = []int{1}
	says("one Serial", of(2, 1, 1))
}

// What is signed is the same whatever Sig there is; all else is part of it.
func TestCrlTbsIsAllButSig(t *testing.T) {
	want, _ := impl.CrlTbs(plainCrl())
	for _, by := range allSigners() {
		tbs, ok := impl.CrlTbs(withCrl(func(c *impl.Crl) { c.Sig = by.sign(want) }))
		saysBytes(t, "with another Sig", tbs, ok, want)
	}
	changes := map[string]func(c *impl.Crl){
		"Alg": func(c *impl.Crl) { c.Alg++ }, "From": func(c *impl.Crl) { c.From++ }, "To": func(c *impl.Crl) { c.To++ },
		"Issuer": func(c *impl.Crl) { c.Issuer = []string{"Root", "hall 1"} }, "blanks": func(c *impl.Crl) { c.Issuer = []string{"Root", "Hall  1"} },
		"no Serials": func(c *impl.Crl) { c.Serials = nil }, "a Serial": func(c *impl.Crl) { c.Serials = []int{4, 300, serialMost} }, "a Serial fewer": func(c *impl.Crl) { c.Serials = c.Serials[1:] },
	}
	for what, change := range changes {
		if tbs, ok := impl.CrlTbs(withCrl(change)); !ok || bytes.Equal(tbs, want) {
			t.Errorf("with another %s: CrlTbs is the same, or refused: %v", what, ok)
		}
	}
}

// CrlTbs stands in WriteCrl just behind the list's Tag and length.
func TestCrlTbsIsPartOfTheWhole(t *testing.T) {
	s := turn(623)
	for range 500 {
		c := s.someCrl()
		tbs, _ := impl.CrlTbs(c)
		text, _ := impl.WriteCrl(c)
		list, code, _ := impl.ReadDer(text)
		if code != impl.DerWell {
			t.Fatalf("no tree: %x", text)
		}
		part, _ := impl.Part(list, 1)
		again, ok := impl.WriteDer(part)
		saysBytes(t, "the first part", again, ok, tbs)
	}
}

func TestTheGreatestCrl(t *testing.T) {
	c := greatestCrl()
	crlComesBack(t, "the greatest", c)
	tbs, _ := impl.CrlTbs(c)
	text, _ := impl.WriteCrl(c)
	if len(tbs) != 397 || len(text) != 468 {
		t.Errorf("the greatest has %d and %d bytes", len(tbs), len(text))
	}
	s := turn(624)
	for range 1000 {
		if other, _ := impl.WriteCrl(s.someCrl()); len(other) > len(text) {
			t.Errorf("one has %d bytes", len(other))
		}
	}
}
