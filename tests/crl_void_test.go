package tests

import (
	"fmt"
	"maps"
	"slices"
	"testing"

	"loop.example/g00148/impl"
)

func TestVoidByHand(t *testing.T) {
	for _, by := range allSigners() {
		r := newRegister(by)
		with, without := r.list(1, r.leaf.Serial, serialMost), r.list(1, r.leaf.Serial-1, r.leaf.Serial+1)
		says := func(what string, want int, lists ...impl.Crl) {
			t.Helper()
			saysVoid(t, by.name+", "+what, r.leaf, r.issuer, lists, chainNow, want)
		}
		says("no lists", impl.VoidUnknown)
		says("on it", impl.VoidYes, with)
		says("not on it", impl.VoidNo, without)
		says("an empty one", impl.VoidNo, r.list())
		says("on the first", impl.VoidYes, with, without)
		says("on the second", impl.VoidYes, without, with)
		says("on both", impl.VoidYes, with, with)
		says("on neither", impl.VoidNo, without, r.list())
	}
}

func TestVoidBySerial(t *testing.T) {
	r := newRegister(quickSigners()[2])
	list := r.list(1, 2, 50, 127, 128, 1000, serialMost-1, serialMost)
	for _, serial := range []int{1, 2, 3, 49, 50, 51, 126, 127, 128, 129, 256, 999, 1000, 1001, serialMost - 2, serialMost - 1, serialMost} {
		c := r.leaf
		c.Serial = serial
		want := impl.VoidNo
		if slices.Contains(list.Serials, serial) {
			want = impl.VoidYes
		}
		saysVoid(t, "a Serial", c, r.issuer, []impl.Crl{list}, chainNow, want)
		saysVoid(t, "a Serial at each place", c, r.issuer, []impl.Crl{r.list(counted(max(1, serial-voidMost+1), min(serial, voidMost))...)}, chainNow, impl.VoidYes)
		saysVoid(t, "the last of few", c, r.issuer, []impl.Crl{r.list(serial)}, chainNow, impl.VoidYes)
	}
}

// Whom c names, its times and who signed it are not asked: its Serial alone is.
func TestVoidAsksForTheSerialAlone(t *testing.T) {
	r := newRegister(quickSigners()[0])
	for what, change := range map[string]func(c *impl.Cert){
		"another Issuer": func(c *impl.Cert) { c.Issuer = []string{"nobody"} }, "not signed": func(c *impl.Cert) { c.Sig = []byte{0} }, "over": func(c *impl.Cert) { c.From, c.To = timeLeast, timeLeast },
		"Usage 1": func(c *impl.Cert) { c.Exts.Usage = 1 }, "another Subject": func(c *impl.Cert) { c.Subject = []string{"nobody"} },
	} {
		c := r.leaf
		change(&c)
		saysVoid(t, what, c, r.issuer, []impl.Crl{r.list(c.Serial)}, chainNow, impl.VoidYes)
		saysVoid(t, what, c, r.issuer, []impl.Crl{r.list()}, chainNow, impl.VoidNo)
		saysVoid(t, what, c, r.issuer, nil, chainNow, impl.VoidUnknown)
	}
	own := r.issuer
	saysVoid(t, "the issuer itself", own, own, []impl.Crl{r.list(own.Serial)}, chainNow, impl.VoidYes)
}

// lastIs has so many lists, of which the last one is told.
func lastIs(many int, last impl.Crl, others impl.Crl) []impl.Crl {
	return append(slices.Repeat([]impl.Crl{others}, many-1), last)
}

func TestVoidByHowManyLists(t *testing.T) {
	for _, by := range quickSigners() {
		r := newRegister(by)
		with, without := r.list(r.leaf.Serial), r.list()
		idle := r.idle()["over"]
		for many := 1; many <= 3*listsMost; many++ {
			want := []int{impl.VoidYes, impl.VoidNo, impl.VoidUnknown}
			if many > listsMost {
				want = []int{impl.VoidUnknown, impl.VoidUnknown, impl.VoidUnknown}
			}
			what := fmt.Sprintf("%d lists", many)
			saysVoid(t, what, r.leaf, r.issuer, lastIs(many, with, without), chainNow, want[0])
			saysVoid(t, what, r.leaf, r.issuer, lastIs(many, with, idle), chainNow, want[0])
			saysVoid(t, what, r.leaf, r.issuer, slices.Repeat([]impl.Crl{with}, many), chainNow, want[0])
			saysVoid(t, what, r.leaf, r.issuer, lastIs(many, without, idle), chainNow, want[1])
			saysVoid(t, what, r.leaf, r.issuer, slices.Repeat([]impl.Crl{idle}, many), chainNow, want[2])
			saysVoid(t, what, r.leaf, r.issuer, slices.Repeat([]impl.Crl{{}}, many), chainNow, want[2])
		}
	}
}

func TestVoidAtTheEdgesOfTimes(t *testing.T) {
	r := newRegister(quickSigners()[3])
	edges := []int{timeLeast, timeLeast + 1, -1, 0, chainNow, timeShortMost, timeShortMost + 1, timeMost - 1, timeMost}
	for _, from := range edges {
		for _, to := range edges {
			if from > to {
				continue
			}
			with := r.listOf(func(c *impl.Crl) { c.From, c.To, c.Serials = from, to, []int{r.leaf.Serial} })
			without := r.listOf(func(c *impl.Crl) { c.From, c.To = from, to })
			for _, now := range append(farOff(), from-1, from, from+1, to-1, to, to+1) {
				what := fmt.Sprintf("%d .. %d", from, to)
				if isOne(now) && within(now, from, to) {
					saysVoid(t, what, r.leaf, r.issuer, []impl.Crl{with}, now, impl.VoidYes)
					saysVoid(t, what, r.leaf, r.issuer, []impl.Crl{without}, now, impl.VoidNo)
				} else {
					saysVoid(t, what, r.leaf, r.issuer, []impl.Crl{with}, now, impl.VoidUnknown)
					saysVoid(t, what, r.leaf, r.issuer, []impl.Crl{without}, now, impl.VoidUnknown)
				}
			}
		}
	}
}

// Neither a list that lasts as long as can be counts at what is no time, nor one that has no time at an end.
func TestVoidAtNoTime(t *testing.T) {
	r := newRegister(quickSigners()[0])
	always := r.listOf(func(c *impl.Crl) { c.From, c.To, c.Serials = timeLeast, timeMost, []int{r.leaf.Serial} })
	for _, now := range append(noTimes(), farOff()...) {
		if !isOne(now) {
			saysVoid(t, "no time", r.leaf, r.issuer, []impl.Crl{always}, now, impl.VoidUnknown)
			wide := r.listOf(func(c *impl.Crl) { c.From, c.To, c.Serials = min(now, 0), max(now, 0), []int{r.leaf.Serial} })
			saysVoid(t, "a list with no time", r.leaf, r.issuer, []impl.Crl{wide}, now, impl.VoidUnknown)
			saysVoid(t, "a list with no time", r.leaf, r.issuer, []impl.Crl{wide}, 0, impl.VoidUnknown)
		}
	}
}

func TestVoidByListsThatDoNotCount(t *testing.T) {
	for _, by := range quickSigners() {
		r := newRegister(by)
		with, without := r.list(r.leaf.Serial), r.list()
		idle := r.idle()
		for what, list := range idle {
			saysVoid(t, what+" alone", r.leaf, r.issuer, []impl.Crl{list}, chainNow, impl.VoidUnknown)
			saysVoid(t, what+" ahead of one that has it", r.leaf, r.issuer, []impl.Crl{list, with}, chainNow, impl.VoidYes)
			saysVoid(t, what+" behind one that has it", r.leaf, r.issuer, []impl.Crl{with, list}, chainNow, impl.VoidYes)
			saysVoid(t, what+" ahead of one that has it not", r.leaf, r.issuer, []impl.Crl{list, without}, chainNow, impl.VoidNo)
			saysVoid(t, what+" behind one that has it not", r.leaf, r.issuer, []impl.Crl{without, list}, chainNow, impl.VoidNo)
			saysVoid(t, what+" about one that has it not", r.leaf, r.issuer, []impl.Crl{list, without, list}, chainNow, impl.VoidNo)
			saysVoid(t, what+" many times", r.leaf, r.issuer, slices.Repeat([]impl.Crl{list}, listsMost), chainNow, impl.VoidUnknown)
		}
		for usage := range usageMost + 1 {
			up := r.issuerAs(func(c *impl.Cert) { c.Exts.Usage = usage })
			want := impl.VoidYes
			if within(usage, 1, 3) {
				want = impl.VoidUnknown
			}
			saysVoid(t, fmt.Sprintf("Usage %d", usage), r.leaf, up, []impl.Crl{with}, chainNow, want)
		}
		// A list that was signed by the leaf is none of its issuer's.
		who := party{r.leaf.Subject, otherSigner(by)}
		saysVoid(t, "its own list", r.leaf, r.issuer, []impl.Crl{sealedCrl(with, who.by)}, chainNow, impl.VoidUnknown)
	}
}

func TestVoidOfOneThatIsNotOk(t *testing.T) {
	for _, by := range quickSigners() {
		r := newRegister(by)
		for _, wrongs := range []map[string]func(c *impl.Cert){wrongCerts(), unsignableCerts()} {
			for what, change := range wrongs {
				c, up := r.leaf, r.issuer
				change(&c)
				change(&up)
				for _, lists := range [][]impl.Crl{nil, {r.list(5)}, {r.list(r.leaf.Serial)}, {r.list(5), r.list(r.leaf.Serial)}} {
					saysVoid(t, what+", c", c, r.issuer, lists, chainNow, impl.VoidUnknown)
					saysVoid(t, what+", issuer", r.leaf, up, lists, chainNow, impl.VoidUnknown)
					saysVoid(t, what+", both", c, up, lists, chainNow, impl.VoidUnknown)
				}
				if isName(up.Subject) {
					named := r.listOf(func(list *impl.Crl) { list.Issuer, list.Serials = up.Subject, []int{r.leaf.Serial} })
					saysVoid(t, what+", named", r.leaf, up, []impl.Crl{named}, chainNow, impl.VoidUnknown)
				}
			}
		}
	}
	saysVoid(t, "nobody", impl.Cert{}, impl.Cert{}, nil, 0, impl.VoidUnknown)
	saysVoid(t, "nobody", impl.Cert{}, impl.Cert{}, make([]impl.Crl, listsMost), 0, impl.VoidUnknown)
}

// someLists are often of the first register, and do not count now and then.
func (s *turn) someLists(registers []register, many int) []impl.Crl {
	lists, small := []impl.Crl{}, sets(5)
	for range many {
		r := registers[0]
		if s.below(3) == 0 {
			r = registers[s.below(len(registers))]
		}
		list := r.listOf(func(c *impl.Crl) {
			c.From, c.To = chainNow-s.below(6), chainNow+s.below(6)
			c.Serials = small[s.below(len(small))]
			if s.below(4) == 0 {
				c.Issuer = registers[0].issuer.Subject
			}
		})
		switch s.below(12) {
		case 0:
			list.Sig[s.below(len(list.Sig))] ^= 1
		case 1:
			list = sealedCrl(list, registers[s.below(len(registers))].by)
		case 2:
			list.Serials = append([]int{9}, list.Serials...)
		}
		lists = append(lists, list)
	}
	return lists
}

// someRegisters have names of which some are the same, and may sign lists or not; the first one may.
func (s *turn) someRegisters() []register {
	list := []register{}
	names := [][]string{{"Hall", "Register"}, {" HALL", "register  "}, {"Hall", "Register 2"}, {"Register"}}
	for _, by := range quickSigners() {
		r := newRegister(by)
		r.issuer.Subject = names[s.below(len(names))]
		r.issuer.Exts.Usage = s.below(usageMost + 1)
		list = append(list, r)
	}
	at := s.below(len(list))
	list[0], list[at] = list[at], list[0]
	list[0].issuer.Exts.Usage = []int{0, 4, 5, 6, 7}[s.below(5)]
	return list
}

func TestVoidByAndLarge(t *testing.T) {
	s := turn(651)
	seen := map[int]int{}
	for i := range 1000 {
		registers := s.someRegisters()
		lists := s.someLists(registers, s.below(listsMost+2))
		c := registers[0].leaf
		c.Serial = 1 + s.below(6)
		for _, r := range registers[:2] {
			for now := chainNow - 6; now <= chainNow+6; now += 3 {
				want := voidTold(c, r.issuer, lists, now)
				saysVoid(t, fmt.Sprintf("lists %d", i), c, r.issuer, lists, now, want)
				seen[want]++
			}
		}
	}
	if len(seen) != 3 || slices.Min(slices.Collect(maps.Values(seen))) < 500 {
		t.Errorf("seen: %v", seen)
	}
}

// A list more makes nothing that is void not so, wherever it is put; nor is what is known unknown by it.
func TestAListMoreTakesNothingBack(t *testing.T) {
	s := turn(652)
	seen := map[int]int{}
	for i := range 400 {
		registers := s.someRegisters()
		r, lists := registers[0], s.someLists(registers, s.below(listsMost))
		c := r.leaf
		c.Serial = 1 + s.below(6)
		was := impl.Void(c, r.issuer, lists, chainNow)
		seen[was]++
		for _, more := range append(s.someLists(registers, 2), impl.Crl{}, r.list(), r.list(c.Serial)) {
			now := impl.Void(c, r.issuer, slices.Insert(slices.Clone(lists), s.below(len(lists)+1), more), chainNow)
			if was == impl.VoidYes && now != impl.VoidYes || was == impl.VoidNo && now == impl.VoidUnknown {
				t.Errorf("lists %d: %d with them, %d with %+v too", i, was, now, more)
			}
		}
	}
	if len(seen) != 3 || slices.Min(slices.Collect(maps.Values(seen))) < 40 {
		t.Errorf("seen: %v", seen)
	}
}

// The order of the lists says nothing.
func TestVoidInEachOrder(t *testing.T) {
	r := newRegister(quickSigners()[2])
	idle := r.idle()
	for _, lists := range [][]impl.Crl{
		{r.list(r.leaf.Serial), r.list(1), idle["over"], idle["a byte of Sig"]},
		{r.list(2), r.list(1), idle["over"], idle["another issuer"]},
		{idle["not begun"], idle["another key"], idle["over"], idle["Serials that fall"]},
	} {
		want := voidTold(r.leaf, r.issuer, lists, chainNow)
		for _, places := range placeLists(len(lists)) {
			if len(places) == len(lists) {
				turned := []impl.Crl{}
				for _, at := range places {
					turned = append(turned, lists[at])
				}
				saysVoid(t, fmt.Sprint(places), r.leaf, r.issuer, turned, chainNow, want)
			}
		}
	}
}
