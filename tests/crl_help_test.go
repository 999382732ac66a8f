package tests

import (
	"bytes"
	"reflect"
	"slices"
	"testing"

	"loop.example/g00148/impl"
)

const (
	voidMost  = 20
	listsMost = 10
)

func isRisingList(list []int) bool {
	return slices.Equal(slices.Compact(slices.Sorted(slices.Values(list))), append([]int(nil), list...))
}

// crlFaults are the reasons for which c is none.
func crlFaults(c impl.Crl) []string {
	faults := []string{}
	fault := func(what string, is bool) {
		if is {
			faults = append(faults, what)
		}
	}
	fault("Issuer", !isName(c.Issuer))
	fault("times", !isOne(c.From) || !isOne(c.To))
	fault("From above To", c.From > c.To)
	fault("Alg", !within(c.Alg, 1, 4))
	fault("how many Serials", len(c.Serials) > voidMost)
	fault("Serials", slices.ContainsFunc(c.Serials, func(n int) bool { return !within(n, 1, serialMost) }))
	fault("Serials do not rise", !isRisingList(c.Serials))
	fault("Sig", !within(len(c.Sig), 1, sigMost))
	return faults
}

// crlTbsNode is reckoned apart from the program. It asks for no limits, so that it tells wrong lists too.
func crlTbsNode(c impl.Crl) node {
	return knot(48, intNode(c.Alg), knot(48, textNodes(12, c.Issuer)...), knot(48, timeNode(c.From), timeNode(c.To)), knot(48, intNodes(c.Serials...)...))
}

func crlNode(c impl.Crl) node {
	return knot(48, crlTbsNode(c), leaf(3, append([]byte{0}, c.Sig...)...))
}

// crl reads what must be there, item by item: it writes nothing again.
func (n node) crl() impl.Crl {
	whole := n.madeOf(48, 2, 2)
	kids := whole[0].madeOf(48, 4, 4)
	times := kids[2].madeOf(48, 2, 2)
	c := impl.Crl{
		Alg: kids[0].number(), Issuer: node{kids: kids[1].madeOf(48, 1, textsMost)}.texts(12),
		From: times[0].time(), To: times[1].time(),
		Serials: node{kids: kids[3].madeOf(48, 0, voidMost)}.numbers(), Sig: whole[1].bits(),
	}
	must(len(crlFaults(c)) == 0)
	return c
}

// filledCrl has nil for every empty list, as both are the same, and shares no memory with c.
func filledCrl(c impl.Crl) impl.Crl {
	c.Issuer, c.Serials, c.Sig = append([]string(nil), c.Issuer...), append([]int(nil), c.Serials...), append([]byte(nil), c.Sig...)
	return c
}

func sameCrl(a impl.Crl, b impl.Crl) bool {
	return reflect.DeepEqual(filledCrl(a), filledCrl(b))
}

func saysCrl(t *testing.T, what string, c impl.Crl, want bool) {
	t.Helper()
	if right := len(crlFaults(c)) == 0; right != want {
		t.Errorf("%s: the test has it otherwise: %v", what, crlFaults(c))
	}
	if got := impl.CrlOk(c); got != want {
		t.Errorf("%s: CrlOk(%+v): got %v, want %v", what, c, got, want)
	}
	if want {
		crlComesBack(t, what, c)
		return
	}
	b, ok := impl.CrlTbs(c)
	refused(t, what+": CrlTbs", b, ok)
	b, ok = impl.WriteCrl(c)
	refused(t, what+": WriteCrl", b, ok)
	l, ok := impl.MergeCrl(c, plainCrl())
	refused(t, what+": MergeCrl of it", l, ok)
	l, ok = impl.MergeCrl(plainCrl(), c)
	refused(t, what+": MergeCrl by it", l, ok)
	l, ok = impl.MergeCrl(c, c)
	refused(t, what+": MergeCrl of it and itself", l, ok)
}

// crlComesBack holds a right list against its bytes, there and back.
func crlComesBack(t *testing.T, what string, c impl.Crl) {
	t.Helper()
	if faults := crlFaults(c); len(faults) > 0 {
		t.Fatalf("%s is no right list: %v", what, faults)
	}
	tbs, ok := impl.CrlTbs(c)
	saysBytes(t, what+": CrlTbs", tbs, ok, crlTbsNode(c).text())
	text, ok := impl.WriteCrl(c)
	saysBytes(t, what+": WriteCrl", text, ok, crlNode(c).text())
	if !bytes.Contains(text, tbs) {
		t.Errorf("%s: CrlTbs is no part of WriteCrl", what)
	}
	readsCrl(t, what, text, c)
}

func readsCrl(t *testing.T, what string, text []byte, want impl.Crl) {
	t.Helper()
	if got, ok := impl.ReadCrl(text); !ok || !sameCrl(got, want) {
		t.Errorf("%s: ReadCrl of %x: got %+v %v, want %+v", what, text, got, ok, want)
	}
}

func refusesCrl(t *testing.T, what string, text []byte) {
	t.Helper()
	if got, ok := impl.ReadCrl(text); ok || !reflect.DeepEqual(filledCrl(got), impl.Crl{}) {
		t.Errorf("%s: ReadCrl of %x: got %+v %v, want nothing", what, text, got, ok)
	}
}

func plainCrl() impl.Crl {
	return impl.Crl{Issuer: []string{"Root", "Hall 1"}, From: 0, To: 86400, Alg: impl.AlgPss, Serials: []int{3, 300, serialMost}, Sig: []byte{1, 2, 3}}
}

// withCrl is a right list, changed.
func withCrl(change func(c *impl.Crl)) impl.Crl {
	c := plainCrl()
	change(&c)
	return c
}

// counted are so many numbers from the first one on.
func counted(first int, many int) []int {
	list := []int{}
	for i := range many {
		list = append(list, first+i)
	}
	return list
}

// someSerials are at most so many, rising.
func (s *turn) someSerials(most int) []int {
	list := []int{}
	for range s.below(most + 1) {
		list = append(list, []int{1 + s.below(30), 1 + s.below(1<<16), (1 + s.below(1<<19)) * (1 + s.below(1<<30)), serialMost - s.below(3)}[s.below(4)])
	}
	slices.Sort(list)
	return slices.Compact(list)
}

func (s *turn) someCrl() impl.Crl {
	from, to := s.someTimes()
	return impl.Crl{Issuer: s.someName(), From: from, To: to, Alg: 1 + s.below(4), Serials: s.someSerials(voidMost), Sig: s.someBytes(1 + s.below(sigMost))}
}

// greatestCrl has as many bytes as a right one can have.
func greatestCrl() impl.Crl {
	text := string(bytes.Repeat([]byte{'~'}, impl.MaxText))
	return impl.Crl{
		Issuer: slices.Repeat([]string{text}, textsMost), From: timeMost, To: timeMost, Alg: impl.AlgEd,
		Serials: counted(serialMost-voidMost+1, voidMost), Sig: bytes.Repeat([]byte{255}, sigMost),
	}
}

// sealedCrl is the list with a signature over what is reckoned apart.
func sealedCrl(c impl.Crl, by signer) impl.Crl {
	c.Alg = by.alg
	c.Sig = by.sign(crlTbsNode(c).text())
	return c
}

// wrongCrls make a right list no right one; each can be signed all the same.
func wrongCrls() map[string]func(c *impl.Crl) {
	return map[string]func(c *impl.Crl){
		"no texts": func(c *impl.Crl) { c.Issuer = nil }, "five texts": func(c *impl.Crl) { c.Issuer = slices.Repeat([]string{"a"}, textsMost+1) },
		"an empty text":        func(c *impl.Crl) { c.Issuer = append(slices.Clone(c.Issuer), "") },
		"a text too long":      func(c *impl.Crl) { c.Issuer = []string{string(bytes.Repeat([]byte{'a'}, impl.MaxText+1))} },
		"a byte 31":            func(c *impl.Crl) { c.Issuer = append(slices.Clone(c.Issuer), "a\x1f") },
		"a byte 127":           func(c *impl.Crl) { c.Issuer = append(slices.Clone(c.Issuer), "\x7f") },
		"From above To":        func(c *impl.Crl) { c.From, c.To = c.To, c.To-1 },
		"From ahead of 1950":   func(c *impl.Crl) { c.From = timeLeast - 1 },
		"To behind 2099":       func(c *impl.Crl) { c.To = timeMost + 1 },
		"Serial 0":             func(c *impl.Crl) { c.Serials = []int{0, 1} },
		"a Serial below 0":     func(c *impl.Crl) { c.Serials = []int{-1, 1} },
		"a Serial too great":   func(c *impl.Crl) { c.Serials = []int{1, serialMost + 1} },
		"Serials that fall":    func(c *impl.Crl) { c.Serials = []int{2, 1} },
		"Serials that are one": func(c *impl.Crl) { c.Serials = []int{1, 1} },
		"a Serial too many":    func(c *impl.Crl) { c.Serials = counted(1, voidMost+1) },
	}
}

// unsignableCrls are wrong where a signature cannot be right.
func unsignableCrls() map[string]func(c *impl.Crl) {
	return map[string]func(c *impl.Crl){
		"no Sig": func(c *impl.Crl) { c.Sig = nil }, "an empty Sig": func(c *impl.Crl) { c.Sig = []byte{} }, "Sig": func(c *impl.Crl) { c.Sig = make([]byte, sigMost+1) },
		"Alg 0": func(c *impl.Crl) { c.Alg = 0 }, "Alg 5": func(c *impl.Crl) { c.Alg = 5 }, "nothing": func(c *impl.Crl) { *c = impl.Crl{} },
	}
}

// crlSigned is reckoned apart from the program.
func crlSigned(c impl.Crl, by impl.Cert) bool {
	return len(crlFaults(c)) == 0 && len(certFaults(by)) == 0 && sameName(by.Subject, c.Issuer) &&
		slices.Contains([]int{0, 4, 5, 6, 7}, by.Exts.Usage) && impl.Verify(by.Key, c.Alg, crlTbsNode(c).text(), c.Sig)
}

// voidTold is reckoned apart from the program, over all of the lists.
func voidTold(c impl.Cert, issuer impl.Cert, lists []impl.Crl, now int) int {
	if len(certFaults(c)) > 0 || len(certFaults(issuer)) > 0 || len(lists) > listsMost {
		return 2
	}
	serials, counting := []int{}, 0
	for _, list := range lists {
		if crlSigned(list, issuer) && isOne(now) && within(now, list.From, list.To) {
			serials = append(serials, list.Serials...)
			counting++
		}
	}
	switch {
	case counting == 0:
		return 2
	case slices.Contains(serials, c.Serial):
		return 1
	}
	return 0
}

func saysCrlSigned(t *testing.T, what string, c impl.Crl, by impl.Cert, want bool) {
	t.Helper()
	if got := impl.CrlSigned(c, by); got != want {
		t.Errorf("%s: CrlSigned of %+v by %q with Usage %d: got %v, want %v", what, c, by.Subject, by.Exts.Usage, got, want)
	}
}

func saysVoid(t *testing.T, what string, c impl.Cert, issuer impl.Cert, lists []impl.Crl, now int, want int) {
	t.Helper()
	if got := impl.Void(c, issuer, lists, now); got != want {
		t.Errorf("%s: Void of %d by %d lists at %d: got %d, want %d", what, c.Serial, len(lists), now, got, want)
	}
}

func saysMerged(t *testing.T, what string, a impl.Crl, b impl.Crl, want []int) {
	t.Helper()
	for _, pair := range [][2]impl.Crl{{a, b}, {b, a}} {
		if got, ok := impl.MergeCrl(pair[0], pair[1]); !ok || !slices.Equal(got, want) {
			t.Errorf("%s: MergeCrl of %v and %v: got %v %v, want %v", what, pair[0].Serials, pair[1].Serials, got, ok, want)
		}
	}
}

func refusesMerge(t *testing.T, what string, a impl.Crl, b impl.Crl) {
	t.Helper()
	for _, pair := range [][2]impl.Crl{{a, b}, {b, a}} {
		got, ok := impl.MergeCrl(pair[0], pair[1])
		refused(t, what+": MergeCrl", got, ok)
	}
}

// register is one who keeps lists, and who is on them.
type register struct {
	by     signer
	issuer impl.Cert
	leaf   impl.Cert
}

func newRegister(by signer) register {
	who := party{[]string{"Hall", "Register"}, by}
	return register{by, issued(who, who), issuedLeaf(who)}
}

// list is one that counts at chainNow.
func (r register) list(serials ...int) impl.Crl {
	return r.listOf(func(c *impl.Crl) { c.Serials = serials })
}

// listOf is signed behind the change.
func (r register) listOf(change func(c *impl.Crl)) impl.Crl {
	c := impl.Crl{Issuer: r.issuer.Subject, From: chainNow - 10, To: chainNow + 10}
	change(&c)
	return sealedCrl(c, r.by)
}

// idle are lists with the leaf's Serial that do not count at chainNow, each for one reason.
func (r register) idle() map[string]impl.Crl {
	own := r.list(r.leaf.Serial)
	lists := map[string]impl.Crl{
		"over":           r.listOf(func(c *impl.Crl) { c.To, c.Serials = chainNow-1, own.Serials }),
		"not begun":      r.listOf(func(c *impl.Crl) { c.From, c.Serials = chainNow+1, own.Serials }),
		"another issuer": r.listOf(func(c *impl.Crl) { c.Issuer, c.Serials = []string{"Hall", "other"}, own.Serials }),
		"another key":    sealedCrl(own, otherSigner(r.by)),
	}
	for what, change := range wrongCrls() {
		lists[what] = r.listOf(func(c *impl.Crl) {
			c.Serials = own.Serials
			change(c)
		})
	}
	behind := unsignableCrls()
	behind["a byte of Sig"] = func(c *impl.Crl) {
		c.Sig = slices.Clone(c.Sig)
		c.Sig[0] ^= 1
	}
	behind["a Serial more"] = func(c *impl.Crl) { c.Serials = append(slices.Clone(c.Serials), serialMost) }
	behind["To, not signed"] = func(c *impl.Crl) { c.To++ }
	for what, change := range behind {
		list := own
		change(&list)
		lists[what] = list
	}
	return lists
}

// otherSigner has another key, by the same algorithm.
func otherSigner(by signer) signer {
	for _, other := range allSigners() {
		if other.alg == by.alg && !impl.SameKey(other.key, by.key) {
			return other
		}
	}
	panic("only one of an algorithm")
}
