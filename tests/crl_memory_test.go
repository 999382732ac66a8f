package tests

import (
	"bytes"
	"fmt"
	"reflect"
	"runtime"
	"slices"
	"strings"
	"sync"
	"testing"
	"time"

	"loop.example/g00148/impl"
)

// guardedCrl is a list with spare room behind each of its own, and a way to tell whether one was written into.
type guardedCrl struct {
	crl     impl.Crl
	touched func() bool
}

func guardCrl(c impl.Crl) guardedCrl {
	issuer, serials, sig := guard(c.Issuer, "room"), guard(c.Serials, roomMark), guard(c.Sig, roomMark)
	c.Issuer, c.Serials, c.Sig = issuer.list, serials.list, sig.list
	return guardedCrl{c, func() bool { return issuer.touched() || serials.touched() || sig.touched() }}
}

// guardedCrls has more lists in the spare room behind.
type guardedCrls struct {
	lists   []impl.Crl
	touched func() bool
}

func guardCrls(lists []impl.Crl, room []impl.Crl) guardedCrls {
	all, checks := []impl.Crl{}, []func() bool{}
	for _, c := range slices.Concat(lists, room) {
		g := guardCrl(c)
		all, checks = append(all, g.crl), append(checks, g.touched)
	}
	was := slices.Clone(all)
	return guardedCrls{all[:len(lists)], func() bool {
		return !reflect.DeepEqual(all, was) || slices.ContainsFunc(checks, func(check func() bool) bool { return check() })
	}}
}

// spoilsOf are the lists of a list, each to be written over with all its room.
func spoilsOf(c impl.Crl) []func() {
	return []func(){func() { spoil(c.Issuer, "spoilt") }, func() { spoil(c.Serials, spoilMark) }, func() { spoil(c.Sig, spoilMark) }}
}

// memoryCrls are right and wrong ones.
func memoryCrls() []impl.Crl {
	s := turn(671)
	list := append(fewCrls(), impl.Crl{}, withCrl(func(c *impl.Crl) { c.Alg = 0 }), withCrl(func(c *impl.Crl) { c.Serials = []int{2, 1} }))
	for range 60 {
		list = append(list, s.someCrl())
	}
	return list
}

func TestCrlsStandAlone(t *testing.T) {
	for i, c := range memoryCrls() {
		what := fmt.Sprintf("list %d", i)
		g := guardCrl(c)
		if impl.CrlOk(g.crl) != impl.CrlOk(c) {
			t.Errorf("%s: spare room is read", what)
		}
		for _, write := range []func(c impl.Crl) ([]byte, bool){impl.CrlTbs, impl.WriteCrl} {
			writesAlone(t, what, write, c, g.crl, g.touched)
		}
	}
}

// A change of a list behind the call changes no bytes that were written of it.
func TestWrittenCrlsStay(t *testing.T) {
	for _, c := range fewCrls() {
		c = filledCrl(c)
		want := crlNode(c).text()
		wantTbs := crlTbsNode(c).text()
		tbs, _ := impl.CrlTbs(c)
		text, _ := impl.WriteCrl(c)
		for _, write := range spoilsOf(c) {
			write()
		}
		sameHex(t, "after a change", text, want)
		sameHex(t, "after a change", tbs, wantTbs)
	}
}

func TestReadCrlsStandAlone(t *testing.T) {
	for i, c := range memoryCrls() {
		if len(crlFaults(c)) > 0 {
			continue
		}
		what := fmt.Sprintf("list %d", i)
		text := crlNode(c).text()
		for _, mark := range []byte{0, 5, 48, 255} {
			g := guard(text, mark)
			got, ok := impl.ReadCrl(g.list)
			if !ok || !sameCrl(got, c) || g.touched() {
				t.Errorf("%s: ReadCrl reads or writes spare room", what)
			}
			spoil(g.list, 0)
			if !sameCrl(got, c) {
				t.Errorf("%s: ReadCrl shares memory with its argument", what)
			}
		}
		for at := range spoilsOf(c) {
			crlListStandsAlone(t, what, text, at)
		}
		sameHex(t, what+": its bytes", text, crlNode(c).text())
		readsCrl(t, what+" a second time", text, c)
	}
}

// crlListStandsAlone writes over one list of a list that is read, and looks that no other one has changed.
func crlListStandsAlone(t *testing.T, what string, text []byte, at int) {
	t.Helper()
	got, _ := impl.ReadCrl(text)
	want, _ := impl.ReadCrl(text)
	spoilsOf(got)[at]()
	same := []bool{slices.Equal(got.Issuer, want.Issuer), slices.Equal(got.Serials, want.Serials), bytes.Equal(got.Sig, want.Sig)}
	same[at] = true
	if slices.Contains(same, false) {
		t.Errorf("%s: list %d shares memory with another one", what, at)
	}
}

func TestMergesStandAlone(t *testing.T) {
	list := memoryCrls()
	for i, a := range list {
		b := list[(i*7+3)%len(list)]
		if i%3 > 0 {
			b.Issuer = a.Issuer
		}
		for _, pair := range [][2]impl.Crl{{a, b}, {a, a}} {
			want, wantOk := impl.MergeCrl(pair[0], pair[1])
			x, y := guardCrl(pair[0]), guardCrl(pair[1])
			got, ok := impl.MergeCrl(x.crl, y.crl)
			if ok != wantOk || !slices.Equal(got, want) {
				t.Errorf("MergeCrl reads spare room: %v and %v", got, want)
			}
			spoil(got, spoilMark)
			if x.touched() || y.touched() {
				t.Error("MergeCrl writes into an argument, or shares memory with it")
			}
			got, _ = impl.MergeCrl(x.crl, y.crl)
			spoil(x.crl.Serials, spoilMark)
			spoil(y.crl.Serials, spoilMark)
			if !slices.Equal(got, want) {
				t.Errorf("MergeCrl keeps an argument: %v, want %v", got, want)
			}
		}
		one := guardCrl(a)
		if got, ok := impl.MergeCrl(one.crl, one.crl); ok && !slices.Equal(got, a.Serials) || ok != impl.CrlOk(a) || one.touched() {
			t.Errorf("MergeCrl of one and itself: %v %v", got, ok)
		}
	}
}

func TestVoidStandsAlone(t *testing.T) {
	s := turn(672)
	seen := map[int]int{}
	for i := range 200 {
		registers := s.someRegisters()
		r, lists := registers[0], s.someLists(registers, s.below(listsMost+2))
		c := r.leaf
		c.Serial = 1 + s.below(6)
		want := impl.Void(c, r.issuer, slices.Clip(lists), chainNow)
		seen[want]++
		// What stands behind the lists would make it void.
		g, certs := guardCrls(lists, []impl.Crl{r.list(counted(1, voidMost)...), {}}), guardChain([]impl.Cert{c, r.issuer}, nil)
		for range 2 {
			saysVoid(t, fmt.Sprintf("lists %d with spare room", i), certs.chain[0], certs.chain[1], g.lists, chainNow, want)
		}
		for _, list := range g.lists {
			saysCrlSigned(t, "with spare room", list, certs.chain[1], crlSigned(list, r.issuer))
		}
		if g.touched() || certs.touched() {
			t.Errorf("lists %d: an argument was written into", i)
		}
	}
	if len(seen) != 3 {
		t.Errorf("seen: %v", seen)
	}
}

// What stands there at a call is what is told of, whatever stood there ahead of it.
func TestListsAreNotKept(t *testing.T) {
	r := newRegister(quickSigners()[2])
	lists := []impl.Crl{r.list(1), r.list(r.leaf.Serial)}
	sig := lists[1].Sig
	for i := range sig {
		saysVoid(t, "at first", r.leaf, r.issuer, lists, chainNow, impl.VoidYes)
		saysCrlSigned(t, "at first", lists[1], r.issuer, true)
		sig[i] ^= 1
		saysVoid(t, "a byte turned in its list", r.leaf, r.issuer, lists, chainNow, impl.VoidNo)
		saysCrlSigned(t, "a byte turned in its list", lists[1], r.issuer, false)
		sig[i] ^= 1
	}
	lists[1] = r.list(2)
	saysVoid(t, "another list", r.leaf, r.issuer, lists, chainNow, impl.VoidNo)
	lists[0], lists[1] = impl.Crl{}, impl.Crl{}
	saysVoid(t, "nothing", r.leaf, r.issuer, lists, chainNow, impl.VoidUnknown)
	a := listing(1, 2)
	saysMerged(t, "at first", a, a, []int{1, 2})
	a.Serials[0] = 3
	refusesMerge(t, "that fall", a, a)
	a.Serials[1] = 4
	saysMerged(t, "others", a, a, []int{3, 4})
}

// Very great and very low numbers in each field.
func TestCrlsOfNumbersFarOff(t *testing.T) {
	fields := map[string]func(c *impl.Crl, n int){
		"From": func(c *impl.Crl, n int) { c.From = n }, "To": func(c *impl.Crl, n int) { c.To = n }, "times": func(c *impl.Crl, n int) { c.From, c.To = n, n },
		"Alg": func(c *impl.Crl, n int) { c.Alg = n }, "a Serial": func(c *impl.Crl, n int) { c.Serials = []int{n} }, "the last Serial": func(c *impl.Crl, n int) { c.Serials = []int{1, n} }, "the first Serial": func(c *impl.Crl, n int) { c.Serials = []int{n, 5} },
	}
	for _, by := range quickSigners() {
		r := newRegister(by)
		for _, n := range veryFar() {
			for what, set := range fields {
				c := r.list(r.leaf.Serial)
				set(&c, n)
				saysCrl(t, what, c, false)
				saysCrlSigned(t, what, c, r.issuer, false)
				saysVoid(t, what, r.leaf, r.issuer, []impl.Crl{c}, chainNow, impl.VoidUnknown)
				saysVoid(t, what, r.leaf, r.issuer, []impl.Crl{c}, n, impl.VoidUnknown)
			}
			for what, set := range numberFields() {
				up, c := r.issuer, r.leaf
				set(&up, n)
				set(&c, n)
				saysCrlSigned(t, what, r.list(1), up, false)
				saysVoid(t, what, r.leaf, up, []impl.Crl{r.list(r.leaf.Serial)}, chainNow, impl.VoidUnknown)
				saysVoid(t, what, c, r.issuer, []impl.Crl{r.list(1)}, chainNow, impl.VoidUnknown)
			}
			saysVoid(t, "now", r.leaf, r.issuer, []impl.Crl{r.list(r.leaf.Serial)}, n, impl.VoidUnknown)
		}
	}
}

// longCrls have one list or text that is very long.
func longCrls() map[string]impl.Crl {
	const size = 1 << 20
	text := strings.Repeat("a", 1<<24)
	return map[string]impl.Crl{
		"Issuer": withCrl(func(c *impl.Crl) { c.Issuer = slices.Repeat([]string{"a"}, size) }), "a text": withCrl(func(c *impl.Crl) { c.Issuer = []string{text} }),
		"Serials": withCrl(func(c *impl.Crl) { c.Serials = counted(1, size) }), "Sig": withCrl(func(c *impl.Crl) { c.Sig = make([]byte, 1<<24) }),
	}
}

func TestCrlsEndSoon(t *testing.T) {
	r := newRegister(quickSigners()[0])
	for what, c := range longCrls() {
		up := r.issuerAs(func(up *impl.Cert) { up.Subject = c.Issuer })
		endsSoon(t, what, func() { saysCrl(t, "a long "+what, c, false) })
		endsSoon(t, what, func() { saysCrlSigned(t, "a long "+what, c, up, false) })
		endsSoon(t, what, func() { refusesMerge(t, "a long "+what, c, c) })
		endsSoon(t, what, func() {
			saysVoid(t, "a long "+what, r.leaf, up, slices.Repeat([]impl.Crl{c}, listsMost), 5, impl.VoidUnknown)
		})
	}
	for what, c := range longCerts() {
		endsSoon(t, what, func() { saysCrlSigned(t, "a long "+what, r.list(5), c, false) })
		endsSoon(t, what, func() {
			saysVoid(t, "a long "+what, c, c, []impl.Crl{r.list(5)}, chainNow, impl.VoidUnknown)
		})
	}
	many := slices.Repeat([]impl.Crl{r.list(r.leaf.Serial)}, 1<<16)
	endsSoon(t, "many lists", func() { saysVoid(t, "many lists", r.leaf, r.issuer, many, chainNow, impl.VoidUnknown) })
	endsSoon(t, "ReadCrl of many bytes", func() { refusesCrl(t, "long", make([]byte, 1<<16)) })
	for _, n := range []node{knot(48, leaves(impl.MaxItems-1)...), wrapped(knot(48, leaves(impl.MaxItems-impl.MaxDeep-1)...), impl.MaxDeep-1)} {
		endsSoon(t, "ReadCrl of many items", func() { refusesCrl(t, "many", n.text()) })
	}
}

func TestTheGreatestCrlsEndSoon(t *testing.T) {
	s := turn(673)
	for _, by := range slices.Concat(s.rsaSigners(512, 65537), s.rsaSigners(512, 65535), quickSigners()) {
		up, c := greatestIssuer(by), greatestCrl()
		c.From = timeLeast
		c = sealedCrl(c, by)
		lists := slices.Repeat([]impl.Crl{c}, listsMost)
		up.Serial = 1
		endsSoon(t, by.name, func() { saysVoid(t, by.name, up, up, lists, chainNow, impl.VoidNo) })
		on := up
		on.Serial = serialMost
		endsSoon(t, by.name, func() { saysVoid(t, by.name, on, up, lists, chainNow, impl.VoidYes) })
		endsSoon(t, by.name, func() { saysCrlSigned(t, by.name, c, up, true) })
		endsSoon(t, by.name, func() { crlComesBack(t, by.name, c) })
		endsSoon(t, by.name, func() { saysMerged(t, by.name, c, c, c.Serials) })
	}
}

// settled waits until no more goroutines are there than were, and tells whether that came to pass.
func settled(was int) bool {
	for range 500 {
		if runtime.NumGoroutine() <= was {
			return true
		}
		time.Sleep(10 * time.Millisecond)
	}
	return false
}

func TestNoGoroutineIsLeftBehind(t *testing.T) {
	was := runtime.NumGoroutine()
	full, other, late := listing(counted(1, voidMost)...), listing(counted(10, voidMost)...), listing(counted(100, voidMost)...)
	for range 300 {
		refusesMerge(t, "too many", full, late)
		refusesMerge(t, "too many, some of both", full, other)
		refusesMerge(t, "not right", full, impl.Crl{})
		saysMerged(t, "the same", full, full, full.Serials)
		saysMerged(t, "none in one", full, listing(), full.Serials)
		saysMerged(t, "none in both", listing(), listing(), nil)
	}
	if !settled(was) {
		t.Errorf("%d goroutines, at first %d", runtime.NumGoroutine(), was)
	}
}

// Several calls at one time answer as one does.
func TestMergesSideBySide(t *testing.T) {
	full, late := listing(counted(1, voidMost)...), listing(counted(5, voidMost-4)...)
	var all sync.WaitGroup
	for range 16 {
		all.Add(1)
		go func() {
			defer all.Done()
			for range 200 {
				saysMerged(t, "side by side", full, late, full.Serials)
				refusesMerge(t, "side by side", full, listing(voidMost+1))
			}
		}()
	}
	all.Wait()
}
