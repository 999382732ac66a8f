package tests

import (
	"fmt"
	"slices"
	"sync"
	"testing"

	"loop.example/g00148/impl"
)

const (
	exceptMost = 20
	derMost    = 4000
	listPlace  = 100
)

// asking is a request that is not written yet, and those who vouch in its row: who issues the leaf first, the anchor last.
type asking struct {
	hall
	people  []party
	lists   []impl.Crl
	host    string
	now     int
	purpose int
	strict  bool
	except  []int
}

func certTexts(list []impl.Cert) [][]byte {
	texts := [][]byte{}
	for _, c := range list {
		texts = append(texts, certNode(c).text())
	}
	return texts
}

func crlTexts(list []impl.Crl) [][]byte {
	texts := [][]byte{}
	for _, c := range list {
		texts = append(texts, crlNode(c).text())
	}
	return texts
}

func (a asking) request() impl.Request {
	return impl.Request{
		Leaf: certNode(a.leaf).text(), Pool: certTexts(a.pool), Anchors: certTexts(a.anchors), Lists: crlTexts(a.lists),
		Host: a.host, Now: a.now, Purpose: a.purpose, Strict: a.strict, Except: a.except,
	}
}

// soundSigners are one of each algorithm, whose keys keep the house rules.
var soundSigners = sync.OnceValue(func() []signer {
	list := []signer{}
	for _, by := range allSigners() {
		c := changed(cleanLeaf(), func(c *impl.Cert) { c.Key = by.key })
		alike := func(other signer) bool { return other.alg == by.alg }
		if len(brokenBy(c)) == 0 && !slices.ContainsFunc(list, alike) {
			list = append(list, by)
		}
	}
	return slices.Clip(list)
})

// listBy counts at chainNow.
func listBy(who party, serials ...int) impl.Crl {
	return sealedCrl(impl.Crl{Issuer: who.name, From: chainNow - 10, To: chainNow + 10, Serials: serials}, who.by)
}

const firstSerial = 1000

// soundRow has a leaf with the first key, and who vouches with the others; each of them has a list on which nobody of the row is.
func soundRow(by ...signer) asking {
	a := asking{host: "x.a.org", now: chainNow, purpose: 1, strict: true}
	for i, own := range by[1:] {
		a.people = append(a.people, party{[]string{"Hall", fmt.Sprintf("Voucher %d", i)}, own})
	}
	a.leaf = issued(party{[]string{"Hall", "gate"}, by[0]}, a.people[0], func(c *impl.Cert) {
		c.Serial = firstSerial
		c.Exts = impl.Exts{Path: -1, Usage: 1, Hosts: []string{"x.a.org", "*.c.b.org", "y.org"}, Nets: [][]int{{9, 8, 7, 6}, {11, 0, 0, 1}}}
	})
	last := len(a.people) - 1
	for i, who := range a.people {
		c := issued(who, a.people[min(i+1, last)], func(c *impl.Cert) { c.Serial, c.Exts.Usage = firstSerial+1+i, 6 })
		if i < last {
			a.pool = append(a.pool, c)
		} else {
			a.anchors = append(a.anchors, c)
		}
		a.lists = append(a.lists, listBy(who, 1, firstSerial-1))
	}
	return a
}

// sound has so many between the leaf and the anchor, and keys of each kind in turn.
func sound(between int) asking {
	return soundFrom(0, between)
}

func soundFrom(first int, between int) asking {
	by, list := []signer{}, soundSigners()
	for i := range between + 2 {
		by = append(by, list[(first+i)%len(list)])
	}
	return soundRow(by...)
}

// path is that of the row, as long as nobody was put ahead of it.
func (a asking) path() []int {
	return append(counted(0, len(a.people)-1), 0)
}

// turned has changes of the one at a place of the row, which is signed anew.
func (a asking) turned(at int, changes ...func(c *impl.Cert)) asking {
	place, last := at, len(a.people)
	if at == last {
		place = 1 + len(a.pool)
	}
	a.hall = a.with(place, func(c *impl.Cert) {
		for _, change := range changes {
			*c = changed(*c, change)
		}
		*c = sealedBy(*c, a.people[min(at, last-1)].by)
	})
	return a
}

// listed has one list more.
func (a asking) listed(more ...impl.Crl) asking {
	a.lists = append(slices.Clone(a.lists), more...)
	return a
}

// voided has the one at a place of the row on a list of its issuer's.
func (a asking) voided(at int) asking {
	return a.listed(listBy(a.people[at], 1, firstSerial+at))
}

// strangers belong to no path of a row: of another name, of a right name with another key, issued by nobody who is there, and not signed.
func (a asking) strangers() []impl.Cert {
	first, other := a.people[0], party{[]string{"Hall", "stranger"}, soundSigners()[0]}
	unsigned := issued(first, a.people[len(a.people)-1])
	unsigned.Sig = []byte{1, 2, 3}
	return []impl.Cert{
		issued(other, other), issued(party{first.name, otherSigner(first.by)}, other), issued(first, other), unsigned, issued(other, first), a.leaf,
	}
}

// readTold is what the strict readers have of a request; the fault has a code where one is none.
func readTold(r impl.Request) (hall, []impl.Crl, impl.Answer) {
	h, lists := hall{}, []impl.Crl{}
	for at, text := range slices.Concat([][]byte{r.Leaf}, r.Pool, r.Anchors) {
		items, code, _ := impl.ReadDer(text)
		if code != 0 {
			return h, nil, impl.Answer{Code: 2, Fault: 1, At: at}
		}
		c, right := strictly(nodeOf(items).cert)
		switch {
		case !right:
			return h, nil, impl.Answer{Code: 2, Fault: 2, At: at}
		case at == 0:
			h.leaf = c
		case at <= len(r.Pool):
			h.pool = append(h.pool, c)
		default:
			h.anchors = append(h.anchors, c)
		}
	}
	for at, text := range r.Lists {
		items, code, _ := impl.ReadDer(text)
		if code != 0 {
			return h, nil, impl.Answer{Code: 2, At: listPlace + at}
		}
		c, right := strictly(nodeOf(items).crl)
		if !right {
			return h, nil, impl.Answer{Code: 2, At: listPlace + at}
		}
		lists = append(lists, c)
	}
	return h, lists, impl.Answer{}
}

func limitsKept(r impl.Request) bool {
	for _, text := range slices.Concat([][]byte{r.Leaf}, r.Pool, r.Anchors, r.Lists) {
		if len(text) > derMost {
			return false
		}
	}
	return len(r.Pool) <= poolMost && len(r.Anchors) <= anchorsMost && len(r.Lists) <= listsMost && len(r.Except) <= exceptMost &&
		isOne(r.Now) && within(r.Purpose, 0, purposeMost) && (r.Host == "" || labelsOf(r.Host) != nil || addressOf(r.Host) != nil)
}

func hostKept(x impl.Exts, host string) bool {
	if address := addressOf(host); address != nil {
		return slices.ContainsFunc(x.Nets, func(net []int) bool { return slices.Equal(net, address) })
	}
	return host == "" || slices.ContainsFunc(x.Hosts, func(pattern string) bool { return matches(pattern, host) })
}

// answerTold is reckoned apart from the program.
func answerTold(r impl.Request) impl.Answer {
	if !limitsKept(r) {
		return impl.Answer{Code: 1}
	}
	h, lists, fault := readTold(r)
	if fault.Code != 0 {
		return fault
	}
	path, code := h.bestOf(h.allPaths(), r.Now, r.Purpose)
	if code != 0 {
		return impl.Answer{Code: 3, Fault: code}
	}
	if !hostKept(h.leaf.Exts, r.Host) {
		return impl.Answer{Code: 4, Path: path}
	}
	return chainAnswer(r, h.chainOf(path), lists, path)
}

// chainAnswer is for a chain that is well and for that host.
func chainAnswer(r impl.Request, chain []impl.Cert, lists []impl.Crl, path []int) impl.Answer {
	last := len(chain) - 1
	for at := range last {
		if code := voidTold(chain[at], chain[at+1], lists, r.Now); code == 1 || code == 2 && r.Strict {
			return impl.Answer{Code: 5, Fault: code, Path: path, At: at}
		}
	}
	for at := range last {
		for _, rule := range brokenBy(chain[at]) {
			if !slices.Contains(r.Except, rule) {
				return impl.Answer{Code: 6, Fault: rule, Path: path, At: at}
			}
		}
	}
	return impl.Answer{Path: path}
}

// witnessTold is reckoned apart from the program.
func witnessTold(r impl.Request, path []int) bool {
	h, _, fault := readTold(r)
	last := len(path) - 1
	if fault.Code != 0 || !h.isRight() || !within(len(path), 1, chainMost-1) || !within(path[last], 0, len(h.anchors)-1) {
		return false
	}
	if slices.ContainsFunc(path[:last], func(at int) bool { return !within(at, 0, len(h.pool)-1) }) {
		return false
	}
	return chainTold(h.chainOf(path), r.Now, r.Purpose).code == 0
}

func reportTold(a impl.Answer) string {
	text := []string{"valid", "limits", "parse", "path", "host", "void", "lint"}[a.Code]
	if a.Code == 0 {
		for _, at := range a.Path {
			text += fmt.Sprintf(" %d", at)
		}
	}
	if a.Code == 2 || a.Code == 5 || a.Code == 6 {
		text += fmt.Sprintf(" at %d", a.At)
	}
	if a.Fault != 0 {
		text += fmt.Sprintf(" fault %d", a.Fault)
	}
	return text
}

func sameAnswer(a impl.Answer, b impl.Answer) bool {
	return a.Code == b.Code && a.Fault == b.Fault && a.At == b.At && slices.Equal(a.Path, b.Path)
}

// saysAnswer wants this of Validate, and what belongs to it of the others.
func saysAnswer(t *testing.T, what string, r impl.Request, want impl.Answer) {
	t.Helper()
	if got := impl.Validate(r); !sameAnswer(got, want) {
		t.Errorf("%s: Validate: got %+v, want %+v", what, got, want)
	}
	saysReport(t, what, r, reportTold(want))
	if len(want.Path) > 0 {
		saysWitness(t, what, r, want.Path, true)
	}
}

func saysReport(t *testing.T, what string, r impl.Request, want string) {
	t.Helper()
	if got := impl.Report(r); got != want {
		t.Errorf("%s: Report: got %q, want %q", what, got, want)
	}
}

func saysWitness(t *testing.T, what string, r impl.Request, path []int, want bool) {
	t.Helper()
	if got := impl.Witness(r, path); got != want {
		t.Errorf("%s: Witness of %v: got %v, want %v", what, path[:min(len(path), 20)], got, want)
	}
}

// saysReckoned holds all answers against what is reckoned apart, and what is promised of them against the program's own functions.
func saysReckoned(t *testing.T, what string, r impl.Request) impl.Answer {
	t.Helper()
	want := answerTold(r)
	saysAnswer(t, what, r, want)
	if want.Code == impl.OkValid {
		validStands(t, what, r)
	}
	return want
}

// validStands holds what is promised of one that is valid.
func validStands(t *testing.T, what string, r impl.Request) {
	t.Helper()
	h, lists, _ := readTold(r)
	path := impl.Validate(r).Path
	saysWitness(t, what, r, path, true)
	chain, ok := impl.ChainOf(h.leaf, h.pool, h.anchors, path)
	if !ok || len(chain) < 2 {
		t.Fatalf("%s: %v has no chain", what, path)
	}
	for at, c := range chain[:len(chain)-1] {
		void := impl.Void(c, chain[at+1], lists, r.Now)
		if void == impl.VoidYes || r.Strict && void != impl.VoidNo {
			t.Errorf("%s: the one at %d is void: %d", what, at, void)
		}
		saysClean(t, what, c, r.Except, true)
	}
}
