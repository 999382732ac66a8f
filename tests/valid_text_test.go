package tests

import (
	"fmt"
	"math"
	"slices"
	"testing"

	"loop.example/g00148/impl"
)

// Each text is told again and again, whatever was told ahead of it.
func TestErrText(t *testing.T) {
	words := []string{"valid", "limits", "parse", "path", "host", "void", "lint"}
	says := func(code int) {
		t.Helper()
		want := ""
		if within(code, 0, len(words)-1) {
			want = words[code]
		}
		if got := impl.ErrText(code); got != want {
			t.Errorf("ErrText(%d): got %q, want %q", code, got, want)
		}
	}
	for range 3 {
		for code := -300; code < 300; code++ {
			says(code)
			says(code)
		}
		for _, code := range append(farNumbers(), math.MinInt, math.MaxInt, 7, 256, 256+5, 1<<32+5, 1<<62+5, math.MinInt+5) {
			says(code)
		}
	}
	for first := range words {
		for second := range words {
			for range 3 {
				says(first)
				says(second)
			}
		}
	}
}

func TestReportByHand(t *testing.T) {
	two := sound(2)
	request := func(a asking, spoil func(r *impl.Request)) impl.Request {
		r := a.request()
		spoil(&r)
		return r
	}
	nothing := func(*impl.Request) {}
	unknown, otherHost := two, two
	unknown.lists, otherHost.host = unknown.lists[:2], "z.org"
	for want, r := range map[string]impl.Request{
		"valid 0":         request(sound(0), nothing),
		"valid 0 1 0":     request(two, nothing),
		"valid 0 1 2 3 0": request(sound(4), nothing),
		"valid 2 3 1": request(two, func(r *impl.Request) {
			r.Pool, r.Anchors = append([][]byte{r.Leaf, r.Leaf}, r.Pool...), append([][]byte{r.Leaf}, r.Anchors...)
		}),
		"limits":             request(two, func(r *impl.Request) { r.Host = "-" }),
		"parse at 0 fault 1": request(two, func(r *impl.Request) { r.Leaf = nil }),
		"parse at 0 fault 2": request(two, func(r *impl.Request) { r.Leaf = []byte{5, 0} }),
		"parse at 2 fault 1": request(two, func(r *impl.Request) { r.Pool[1] = nil }),
		"parse at 3 fault 2": request(two, func(r *impl.Request) { r.Anchors[0] = r.Lists[0] }),
		"parse at 100":       request(two, func(r *impl.Request) { r.Lists[0] = nil }),
		"parse at 102":       request(two, func(r *impl.Request) { r.Lists[2] = r.Leaf }),
		"path fault 2":       request(two, func(r *impl.Request) { r.Anchors = nil }),
		"path fault 4":       request(two, func(r *impl.Request) { r.Now += 101 }),
		"host":               request(otherHost, nothing),
		"void at 0 fault 1":  request(two.voided(0), nothing),
		"void at 2 fault 1":  request(two.voided(2), nothing),
		"void at 2 fault 2":  request(unknown, nothing),
		"lint at 0 fault 15": request(two.turned(0, breaches()[15]), nothing),
		"lint at 1 fault 4":  request(two.turned(1, func(c *impl.Cert) { c.Exts.Usage = 0 }), nothing),
		"lint at 2 fault 2":  request(two.turned(2, func(c *impl.Cert) { c.Exts.Nets = [][]int{{10, 0, 0, 1}} }), nothing),
		"parse at 12 fault 2": request(two, func(r *impl.Request) {
			r.Pool, r.Anchors = slices.Repeat(r.Pool[:1], 8), append(slices.Repeat(r.Anchors, 3), []byte{48, 0})
		}),
		"parse at 109": request(two, func(r *impl.Request) { r.Lists = append(slices.Repeat(r.Lists, 3), nil) }),
	} {
		for range 2 {
			saysReport(t, want, r, want)
		}
		if told := reportTold(answerTold(r)); told != want {
			t.Errorf("the test has it otherwise: %q, want %q", told, want)
		}
	}
	saysReport(t, "nothing", impl.Request{}, "parse at 0 fault 1")
}

// manyPaths are all lists of few small numbers, and some beyond.
func manyPaths() [][]int {
	paths := [][]int{nil, {}}
	for i := 0; i < len(paths); i++ {
		if len(paths[i]) < 3 && (i == 0 || len(paths[i]) > 0) {
			for at := -1; at <= 3; at++ {
				paths = append(paths, append(slices.Clone(paths[i]), at))
			}
		}
	}
	for _, n := range veryFar() {
		paths = append(paths, []int{n}, []int{0, n}, []int{n, 0}, []int{0, n, 0}, []int{n, n, n})
	}
	for many := 4; many <= 8; many++ {
		paths = append(paths, counted(0, many), append(counted(0, many), 0), make([]int, many), slices.Repeat([]int{0, 1}, many))
	}
	return paths
}

// Each list of numbers against what is reckoned apart, for chains and for what is none.
func TestWitnessOfEachPath(t *testing.T) {
	s := turn(821)
	list := []asking{sound(0), sound(1), sound(2), sound(4)}
	for range 12 {
		list = append(list, s.someRow(quickSigners()), s.someCrowdAsking(quickSigners()))
	}
	who := party{[]string{"Hall", "own"}, soundSigners()[2]}
	own := issued(who, who)
	list = append(list, asking{hall: hall{own, []impl.Cert{own, own}, []impl.Cert{own, own}}, now: chainNow})
	seen := tally{}
	for i, a := range list {
		r := a.request()
		for _, path := range manyPaths() {
			want := witnessTold(r, path)
			saysWitness(t, fmt.Sprintf("request %d", i), r, path, want)
			seen.count(want)
		}
		if told := impl.Validate(r); len(told.Path) > 0 {
			saysWitness(t, fmt.Sprintf("request %d", i), r, told.Path, true)
		}
	}
	seen.enough(t, 60)
}

// A witness needs no path: one place may stand there twice, where the chain is well.
func TestWitnessOfAPlaceTwice(t *testing.T) {
	who := party{[]string{"Hall", "own"}, soundSigners()[3]}
	own := issued(who, who)
	r := asking{hall: hall{own, []impl.Cert{own}, []impl.Cert{own}}, now: chainNow}.request()
	for many := range betweenMost + 1 {
		saysWitness(t, "one place", r, make([]int, many+1), true)
	}
	saysWitness(t, "one place too often", r, make([]int, betweenMost+2), false)
	saysAnswer(t, "a path has no place twice", copiedRequest(r), answerTold(r))
}

func TestWitnessOfWhatIsNotRead(t *testing.T) {
	for _, r := range []impl.Request{sound(0).request(), sound(2).request(), fullRequest()} {
		path := impl.Validate(r).Path
		saysWitness(t, "all is read", r, path, true)
		for _, text := range [][]byte{nil, {48, 0}, make([]byte, derMost), make([]byte, derMost+1)} {
			for place, other := range spoiltAt(r, text) {
				saysWitness(t, fmt.Sprintf("not read at %d", place), other, path, false)
			}
		}
		more := copiedRequest(r)
		more.Lists = append(more.Lists, []byte{48, 0})
		saysWitness(t, "a list more", more, path, false)
	}
	full, path := fullRequest(), sound(2).path()
	one := copiedRequest(full)
	one.Pool = append(one.Pool, one.Pool[0])
	saysWitness(t, "one more of Pool", one, path, false)
	one = copiedRequest(full)
	one.Anchors = append(one.Anchors, one.Anchors[0])
	saysWitness(t, "one more of Anchors", one, path, false)
	saysWitness(t, "nothing", impl.Request{}, nil, false)
	saysWitness(t, "nothing", impl.Request{}, []int{0}, false)
}

func TestWitnessAtATimeAndForAPurpose(t *testing.T) {
	always := func(c *impl.Cert) { c.From, c.To = timeLeast, timeMost }
	a := sound(1).turned(0, always).turned(1, always).turned(2, always)
	late := sound(1)
	for _, n := range append(farOff(), timeLeast-1, timeLeast, -1, 0, 1, chainNow-101, chainNow-100, chainNow+100, chainNow+101, timeMost, timeMost+1, purposeMost, purposeMost+1) {
		a.now, late.now = n, n
		saysWitness(t, fmt.Sprintf("at %d", n), a.request(), a.path(), isOne(n))
		saysWitness(t, fmt.Sprintf("at %d", n), late.request(), a.path(), within(n, chainNow-100, chainNow+100))
		b := sound(1)
		b.purpose = n
		saysWitness(t, fmt.Sprintf("for %d", n), b.request(), a.path(), within(n, 0, purposeMost))
	}
}

// Host, Strict, Except and what lists say are not asked of a witness; that they are lists is.
func TestWitnessAsksForNothingElse(t *testing.T) {
	a := sound(2)
	path := a.path()
	for what, change := range map[string]func(a asking) asking{
		"void": func(a asking) asking { return a.voided(0) }, "a broken rule": func(a asking) asking { return a.turned(0, breaches()[15]) },
		"another host":    func(a asking) asking { a.host = "z.org"; return a },
		"no host":         func(a asking) asking { a.host = "-"; return a },
		"no lists":        func(a asking) asking { a.lists = nil; return a },
		"many lists":      func(a asking) asking { a.lists = slices.Repeat(a.lists, listsMost); return a },
		"many exceptions": func(a asking) asking { a.except = make([]int, 2*exceptMost); return a },
	} {
		saysWitness(t, what, change(a).request(), path, true)
	}
}
