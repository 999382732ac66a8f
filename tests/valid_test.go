package tests

import (
	"bytes"
	"fmt"
	"slices"
	"testing"

	"loop.example/g00148/impl"
)

func TestValidConstants(t *testing.T) {
	sameList(t, "constants", []int{impl.OkValid, impl.ErrLimits, impl.ErrParse, impl.ErrPath, impl.ErrHost, impl.ErrVoid, impl.ErrLint}, counted(0, 7))
}

// Rows of each length, with keys of each kind at each place, and more in the pool than stand in the path.
func TestSoundRowsAreValid(t *testing.T) {
	for between := range betweenMost + 1 {
		for first := range soundSigners() {
			a := soundFrom(first, between)
			what := fmt.Sprintf("%d between, from %d on", between, first)
			saysAnswer(t, what, a.request(), impl.Answer{Path: a.path()})
			validStands(t, what, a.request())
			a.pool = append(a.pool, a.strangers()[:min(4, poolMost-between)]...)
			saysAnswer(t, what+", with strangers", a.request(), impl.Answer{Path: a.path()})
			slices.Reverse(a.pool)
			saysReckoned(t, what+", the other way round", a.request())
			a.anchors = append([]impl.Cert{plainCert()}, a.anchors...)
			if told := saysReckoned(t, what+", another anchor ahead", a.request()); told.Code != impl.OkValid || told.Path[between] != 1 {
				t.Errorf("%s: %+v", what, told)
			}
			a.lists, a.strict, a.host, a.purpose = nil, false, "", 0
			saysReckoned(t, what+", without lists and host", a.request())
		}
	}
}

func TestSoundRowsOfEachKey(t *testing.T) {
	for _, by := range allSigners() {
		a := soundRow(by, by, by)
		a.except = []int{6, 7}
		saysAnswer(t, by.name, a.request(), impl.Answer{Path: []int{0, 0}})
		validStands(t, by.name, a.request())
		saysReckoned(t, by.name+", nothing excepted", soundRow(by, by, by).request())
		saysAnswer(t, by.name+", void", a.voided(1).request(), impl.Answer{Code: 5, Fault: 1, Path: []int{0, 0}, At: 1})
	}
}

// flaw is one thing that is wrong with a row of four, and what is told of it; the path is left out.
type flaw struct {
	name   string
	told   impl.Answer
	change func(a asking) asking
	spoil  func(r *impl.Request)
}

func (f flaw) answer(path []int) impl.Answer {
	told := f.told
	if told.Code >= impl.ErrHost {
		told.Path = path
	}
	return told
}

// flawed has some flaws; those that are told later are put in first, so that they take nothing away.
func flawed(a asking, flaws ...flaw) impl.Request {
	for _, f := range slices.Backward(flaws) {
		if f.change != nil {
			a = f.change(a)
		}
	}
	r := a.request()
	for _, f := range slices.Backward(flaws) {
		if f.spoil != nil {
			f.spoil(&r)
		}
	}
	return r
}

func limitFlaws() []flaw {
	long := make([]byte, derMost+1)
	list := []flaw{}
	for name, spoil := range map[string]func(r *impl.Request){
		"Purpose": func(r *impl.Request) { r.Purpose = purposeMost + 1 }, "Purpose below 0": func(r *impl.Request) { r.Purpose = -1 },
		"Now": func(r *impl.Request) { r.Now = timeMost + 1 }, "Now too low": func(r *impl.Request) { r.Now = timeLeast - 1 },
		"Host": func(r *impl.Request) { r.Host = "X.a.org" }, "a star": func(r *impl.Request) { r.Host = "*.c.b.org" }, "no address": func(r *impl.Request) { r.Host = "9.8.7.06" },
		"Except": func(r *impl.Request) { r.Except = make([]int, exceptMost+1) },
		"Pool":   func(r *impl.Request) { r.Pool = slices.Repeat([][]byte{{}}, poolMost+1) }, "Anchors": func(r *impl.Request) { r.Anchors = slices.Repeat([][]byte{{}}, anchorsMost+1) }, "Lists": func(r *impl.Request) { r.Lists = slices.Repeat([][]byte{{}}, listsMost+1) },
		"a long leaf": func(r *impl.Request) { r.Leaf = long }, "one long of Pool": func(r *impl.Request) { r.Pool = append(r.Pool, long) },
		"one long of Anchors": func(r *impl.Request) { r.Anchors = append(r.Anchors, long) }, "one long of Lists": func(r *impl.Request) { r.Lists = append(r.Lists, long) },
	} {
		list = append(list, flaw{name: name, told: impl.Answer{Code: 1}, spoil: spoil})
	}
	return list
}

func parseFlaws() []flaw {
	none, noTree := []byte{48, 0}, []byte{48, 1}
	says := func(at int, fault int) impl.Answer { return impl.Answer{Code: 2, Fault: fault, At: at} }
	return []flaw{
		{name: "no leaf", told: says(0, 1), spoil: func(r *impl.Request) { r.Leaf = nil }},
		{name: "another tree as leaf", told: says(0, 2), spoil: func(r *impl.Request) { r.Leaf = none }},
		{name: "a list as leaf", told: says(0, 2), spoil: func(r *impl.Request) { r.Leaf = r.Lists[0] }},
		{name: "the first of Pool", told: says(1, 1), spoil: func(r *impl.Request) { r.Pool = slices.Insert(r.Pool, 0, noTree) }},
		{name: "the last of Pool", told: says(3, 2), spoil: func(r *impl.Request) { r.Pool = append(r.Pool, none) }},
		{name: "the first of Anchors", told: says(3, 2), spoil: func(r *impl.Request) { r.Anchors = slices.Insert(r.Anchors, 0, none) }},
		{name: "the last of Anchors", told: says(4, 1), spoil: func(r *impl.Request) { r.Anchors = append(r.Anchors, noTree) }},
		{name: "the first of Lists", told: says(100, 0), spoil: func(r *impl.Request) { r.Lists = slices.Insert(r.Lists, 0, none) }},
		{name: "a leaf as list", told: says(101, 0), spoil: func(r *impl.Request) { r.Lists = slices.Insert(r.Lists, 1, r.Leaf) }},
	}
}

func pathFlaws() []flaw {
	turned := func(name string, code int, at int, change func(c *impl.Cert)) flaw {
		return flaw{name: name, told: impl.Answer{Code: 3, Fault: code}, change: func(a asking) asking { return a.turned(at, change) }}
	}
	spoilt := func(name string, change func(a asking) hall) flaw {
		return flaw{name: name, told: impl.Answer{Code: 3, Fault: 2}, change: func(a asking) asking {
			a.hall = change(a)
			return a
		}}
	}
	return []flaw{
		spoilt("another anchor", func(a asking) hall { return hall{a.leaf, a.pool, []impl.Cert{plainCert()}} }),
		spoilt("others in the pool", func(a asking) hall { return hall{a.leaf, a.strangers()[:2], a.anchors} }),
		spoilt("a leaf that is not signed", func(a asking) hall { return a.with(0, func(c *impl.Cert) { c.Sig = c.Sig[1:] }) }),
		turned("the anchor is over", 4, 3, toTime), turned("the leaf is over", 4, 0, toTime), turned("one between is no Ca", 5, 1, toCa),
		turned("Path", 6, 3, func(c *impl.Cert) { c.Exts.Path = 1 }), turned("Usage", 7, 2, toUsage), turned("Deny", 8, 2, toAllow), turned("Purposes", 9, 1, toPurpose),
	}
}

func hostFlaws() []flaw {
	list := []flaw{}
	for _, host := range []string{"z.e.org", "a.org", "c.b.org", "d.e.c.b.org", "9.8.7.5", "0.0.0.0"} {
		list = append(list, flaw{name: "for " + host, told: impl.Answer{Code: 4}, change: func(a asking) asking {
			a.host = host
			return a
		}})
	}
	return list
}

func voidFlaws() []flaw {
	list := []flaw{}
	for at := range 3 {
		list = append(list, flaw{name: fmt.Sprintf("void at %d", at), told: impl.Answer{Code: 5, Fault: 1, At: at}, change: func(a asking) asking { return a.voided(at) }})
		list = append(list, flaw{name: fmt.Sprintf("not known at %d", at), told: impl.Answer{Code: 5, Fault: 2, At: at}, change: func(a asking) asking {
			a.strict, a.lists = true, slices.Delete(slices.Clone(a.lists), at, at+1)
			return a
		}})
	}
	return list
}

func lintFlaws() []flaw {
	turned := func(rule int, at int, change func(c *impl.Cert)) flaw {
		return flaw{name: fmt.Sprintf("rule %d at %d", rule, at), told: impl.Answer{Code: 6, Fault: rule, At: at}, change: func(a asking) asking { return a.turned(at, change) }}
	}
	each := breaches()
	return []flaw{
		turned(15, 0, each[15]), turned(8, 0, each[8]), turned(9, 0, each[9]), turned(3, 0, each[3]), turned(10, 0, each[10]),
		turned(2, 1, func(c *impl.Cert) { c.Exts.Hosts = []string{"a.org"} }), turned(4, 1, func(c *impl.Cert) { c.Exts.Usage = 0 }), turned(2, 2, func(c *impl.Cert) { c.Exts.Nets = [][]int{{1, 2, 3, 4}} }), turned(4, 2, func(c *impl.Cert) { c.Exts.Usage = 0 }),
	}
}

// flawsByCode are those of each code, ErrLimits first.
func flawsByCode() [][]flaw {
	return [][]flaw{limitFlaws(), parseFlaws(), pathFlaws(), hostFlaws(), voidFlaws(), lintFlaws()}
}

func TestEachFlawByItself(t *testing.T) {
	for code, flaws := range flawsByCode() {
		for _, f := range flaws {
			if f.told.Code != code+1 {
				t.Errorf("%s is of code %d", f.name, f.told.Code)
			}
			for first := range soundSigners() {
				a := soundFrom(first, 2)
				a.purpose = turnPurpose
				saysAnswer(t, f.name, flawed(a, f), f.answer(a.path()))
				saysReckoned(t, f.name, flawed(a, f))
			}
		}
	}
}

// Of each two flaws of unlike codes the one of the lesser code is told, wherever both stand.
func TestEachPairOfCodes(t *testing.T) {
	a := sound(2)
	a.purpose = turnPurpose
	all := flawsByCode()
	for i, firsts := range all {
		for _, f := range firsts {
			for _, seconds := range all[i+1:] {
				for _, g := range seconds {
					saysAnswer(t, f.name+" and "+g.name, flawed(a, f, g), f.answer(a.path()))
				}
			}
		}
	}
}

// One flaw of each code, in each set.
func TestEachSetOfCodes(t *testing.T) {
	named := func(flaws []flaw, name string) flaw {
		at := slices.IndexFunc(flaws, func(f flaw) bool { return f.name == name })
		return flaws[at]
	}
	all := flawsByCode()
	for _, names := range [][]string{
		{"Purpose", "the first of Lists", "the anchor is over", "for z.e.org", "void at 1", "rule 15 at 0"},
		{"Now", "the last of Anchors", "others in the pool", "for 9.8.7.5", "not known at 2", "rule 2 at 1"},
		{"one long of Lists", "a leaf as list", "Purposes", "for a.org", "void at 2", "rule 8 at 0"},
	} {
		one := []flaw{}
		for i, name := range names {
			one = append(one, named(all[i], name))
		}
		for set := range 1 << len(one) {
			a, some := sound(2), []flaw{}
			a.purpose = turnPurpose
			for i, f := range one {
				if set>>i&1 == 1 {
					some = append(some, f)
				}
			}
			want := impl.Answer{Path: a.path()}
			if len(some) > 0 {
				want = some[0].answer(a.path())
			}
			saysAnswer(t, fmt.Sprintf("set %d", set), flawed(a, some...), want)
		}
	}
}

// someHost is one of a row, or another one.
func (s *turn) someHost() string {
	hosts := []string{"", "x.a.org", "d.c.b.org", "y.org", "9.8.7.6", "11.0.0.1", "x.a.org", "y.org", "a.org", "c.b.org", "9.8.7.5", "x.a.org.org", "A", "9.8.7"}
	return hosts[s.below(len(hosts))]
}

// someRow is a row with flaws now and then, and keys by chance.
func (s *turn) someRow(list []signer) asking {
	by := []signer{}
	for range 2 + s.below(betweenMost+1) {
		by = append(by, list[s.below(len(list))])
	}
	a := soundRow(by...)
	a.strict, a.except, a.purpose = s.below(3) == 0, []int{6, 7}, []int{0, 1, turnPurpose, turnPurpose}[s.below(4)]
	last := len(a.people)
	if turns := brokenTurns(); s.below(4) == 0 {
		a = a.turned(s.below(last+1), turns[s.below(len(turns))].change)
	}
	for range s.below(3) {
		rules := leafRules()
		a = a.turned(0, breaches()[rules[s.below(len(rules))]])
	}
	if s.below(4) == 0 {
		change := []func(c *impl.Cert){func(c *impl.Cert) { c.Exts.Usage = 0 }, func(c *impl.Cert) { c.Serial = 63 }, func(c *impl.Cert) { c.Exts.Nets = [][]int{{10, 1, 2, 3}} }}
		a = a.turned(1+s.below(last), change[s.below(3)])
	}
	switch s.below(4) {
	case 0:
		a.except = append([]int{16, 15}, counted(1, rulesMost)...)
	case 1:
		a.except = append(a.except, counted(2+s.below(5), s.below(9))...)
	}
	if s.below(2) == 0 {
		a.host = s.someHost()
	}
	return s.crowded(s.listed(a))
}

// listed has lists that void, that do not count, and some fewer, by chance.
func (s *turn) listed(a asking) asking {
	if s.below(4) == 0 {
		a = a.voided(s.below(len(a.people)))
	}
	if s.below(4) == 0 {
		a.lists = slices.Delete(a.lists, 0, 1)
	}
	if s.below(4) == 0 {
		idle := listBy(a.people[0], firstSerial)
		idle.Sig[s.below(len(idle.Sig))] ^= 1
		a = a.listed(idle)
	}
	if s.below(4) == 0 {
		a = a.listed(listBy(party{[]string{"Hall", "stranger"}, a.people[0].by}, firstSerial))
	}
	return a
}

// crowded has strangers and others twice, in any order.
func (s *turn) crowded(a asking) asking {
	others := slices.Concat(a.strangers(), a.pool, a.anchors)
	for range s.below(poolMost - len(a.pool) + 1) {
		a.pool = slices.Insert(slices.Clone(a.pool), s.below(len(a.pool)+1), others[s.below(len(others))])
	}
	for range s.below(anchorsMost) {
		a.anchors = slices.Insert(slices.Clone(a.anchors), s.below(len(a.anchors)+1), others[s.below(len(others))])
	}
	return a
}

// someSpoilt has now and then something that is no certificate or list, or is beyond a limit.
func (s *turn) someSpoilt(r impl.Request) impl.Request {
	texts := slices.Concat(r.Pool, r.Anchors, r.Lists, [][]byte{{}, {48, 0}, {1}, bytes.Repeat([]byte{0}, derMost), make([]byte, derMost+1)})
	any := func() []byte { return texts[s.below(len(texts))] }
	insert := func(list [][]byte) [][]byte { return slices.Insert(slices.Clone(list), s.below(len(list)+1), any()) }
	switch s.below(30) {
	case 0:
		r.Leaf = any()
	case 1:
		r.Pool = insert(r.Pool)
	case 2:
		r.Anchors = insert(r.Anchors)
	case 3, 4:
		r.Lists = insert(r.Lists)
	case 5:
		r.Now = []int{timeLeast - 1, timeLeast, -1, 0, timeMost, timeMost + 1}[s.below(6)]
	case 6:
		r.Purpose = []int{-1, purposeMost, purposeMost + 1}[s.below(3)]
	case 7:
		r.Except = append(slices.Clone(r.Except), make([]int, exceptMost-len(r.Except)+s.below(2))...)
	}
	return r
}

// answersSeen counts codes, so that a test can tell that it has seen each.
type answersSeen [7]int

func (c answersSeen) enough(t *testing.T, least int) {
	t.Helper()
	if slices.Min(c[:]) < least {
		t.Errorf("seen: %v", c)
	}
}

// Many rows against what is reckoned apart.
func TestSomeRows(t *testing.T) {
	s := turn(801)
	seen := answersSeen{}
	for i := range 500 {
		list := soundSigners()
		if i%2 == 0 {
			list = allSigners()
		}
		r := s.someSpoilt(s.someRow(list).request())
		seen[saysReckoned(t, fmt.Sprintf("row %d", i), r).Code]++
	}
	seen.enough(t, 15)
}

// someCrowdAsking has many paths or none, and lists by all people.
func (s *turn) someCrowdAsking(list []signer) asking {
	from := s.someCrowd(list)
	a := asking{hall: s.someHall(from), people: from.people, now: chainNow, purpose: turnPurpose, strict: s.below(3) == 0}
	for range s.below(listsMost + 1) {
		a.lists = append(a.lists, listBy(from.people[s.below(len(from.people))], counted(500+s.below(100), s.below(voidMost))...))
	}
	if s.below(2) == 0 {
		a.host = []string{"x.a.org", "y.b.org", "z.org"}[s.below(3)]
	}
	a.except = counted(1, rulesMost)
	if s.below(3) == 0 {
		a.except = slices.Delete(a.except, s.below(rulesMost), rulesMost)
	}
	return a
}

func TestSomeCrowdsAreAnswered(t *testing.T) {
	s := turn(802)
	seen := answersSeen{}
	list := quickSigners()
	for i := range 400 {
		seen[saysReckoned(t, fmt.Sprintf("crowd %d", i), s.someSpoilt(s.someCrowdAsking(list).request())).Code]++
	}
	seen.enough(t, 5)
}

// One more at the end of Pool that belongs to no path leaves the answer as it is.
func TestWhatStandsInNoPath(t *testing.T) {
	s := turn(803)
	seen := answersSeen{}
	same := func(what string, a asking, more impl.Cert) {
		t.Helper()
		was := a.request()
		a.pool = append(slices.Clone(a.pool), more)
		byIt := func(path []int) bool { return slices.Contains(path[:len(path)-1], len(was.Pool)) }
		if _, _, fault := readTold(was); fault.Code != 0 || len(was.Pool) == poolMost || slices.ContainsFunc(a.allPaths(), byIt) {
			return
		}
		got := impl.Validate(was)
		saysAnswer(t, what, a.request(), got)
		seen[got.Code]++
	}
	for i := range 60 {
		a := s.someRow(quickSigners())
		for _, more := range append(a.strangers(), plainCert(), fullCert(), greatestCert()) {
			same(fmt.Sprintf("row %d", i), a, more)
		}
		from := s.someCrowd(quickSigners())
		a = s.someCrowdAsking(quickSigners())
		same(fmt.Sprintf("crowd %d", i), a, s.someMore(a.hall, from))
	}
	// Nothing is asked of what is not read.
	seen[impl.ErrParse] = seen[impl.ErrLimits]
	seen.enough(t, 15)
}

// A list that is nobody's who vouches changes nothing, wherever it stands.
func TestListsOfOthersChangeNothing(t *testing.T) {
	for between := range 3 {
		for _, strict := range []bool{false, true} {
			a := sound(between)
			a.strict = strict
			other := party{[]string{"Hall", "stranger"}, a.people[0].by}
			for _, more := range []impl.Crl{listBy(other, firstSerial, firstSerial+1), listBy(party{a.people[0].name, otherSigner(a.people[0].by)}, firstSerial), plainCrl(), greatestCrl()} {
				for at := range len(a.lists) + 1 {
					b := a
					b.lists = slices.Insert(slices.Clone(a.lists), at, more)
					saysAnswer(t, "another list", b.request(), impl.Answer{Path: a.path()})
				}
			}
		}
	}
}
