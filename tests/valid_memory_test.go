package tests

import (
	"fmt"
	"reflect"
	"runtime"
	"slices"
	"strings"
	"sync"
	"testing"

	"loop.example/g00148/impl"
)

// guardedRequest has spare room behind each of its lists, and a way to tell whether something was written into.
type guardedRequest struct {
	request impl.Request
	touched func() bool
}

// guardRequest has behind the lists what would change the answer, if it were read.
func guardRequest(r impl.Request) guardedRequest {
	checks := []func() bool{}
	text := func(b []byte) []byte {
		g := guard(b, roomMark)
		checks = append(checks, g.touched)
		return g.list
	}
	texts := func(list [][]byte) [][]byte {
		room := [][]byte{}
		for _, b := range slices.Concat(list, [][]byte{{48, 0}, r.Leaf, make([]byte, derMost+1)}) {
			room = append(room, text(b))
		}
		was := slices.Clone(room)
		checks = append(checks, func() bool { return !reflect.DeepEqual(room, was) })
		return room[:len(list)]
	}
	r.Leaf = text(r.Leaf)
	for _, list := range textPlaces(&r) {
		*list = texts(*list)
	}
	except := guard(r.Except, roomMark)
	r.Except, checks = except.list, append(checks, except.touched)
	return guardedRequest{r, func() bool {
		return slices.ContainsFunc(checks, func(check func() bool) bool { return check() })
	}}
}

// memoryRequests are of each code.
func memoryRequests() []impl.Request {
	s := turn(831)
	list := []impl.Request{{}, fullRequest()}
	for _, flaws := range flawsByCode() {
		for _, f := range flaws {
			list = append(list, flawed(sound(2), f))
		}
	}
	for range 60 {
		list = append(list, s.someSpoilt(s.someRow(quickSigners()).request()), s.someCrowdAsking(quickSigners()).request())
	}
	return list
}

// requestAnswers is all that is told of a request.
type requestAnswers struct {
	answer    impl.Answer
	report    string
	witnesses []bool
}

func answersTo(r impl.Request) requestAnswers {
	a := requestAnswers{answer: impl.Validate(r), report: impl.Report(r)}
	for _, path := range [][]int{a.answer.Path, {0}, {0, 0}, {0, 1, 0}, {}} {
		a.witnesses = append(a.witnesses, impl.Witness(r, path))
	}
	return a
}

func (a requestAnswers) same(b requestAnswers) bool {
	return sameAnswer(a.answer, b.answer) && a.report == b.report && slices.Equal(a.witnesses, b.witnesses)
}

func TestRequestsStandAlone(t *testing.T) {
	for i, r := range memoryRequests() {
		what := fmt.Sprintf("request %d", i)
		want := answersTo(copiedRequest(r))
		g := guardRequest(r)
		got := answersTo(g.request)
		if !got.same(want) {
			t.Errorf("%s: spare room is read: %+v, want %+v", what, got, want)
		}
		spoil(got.answer.Path, spoilMark)
		if g.touched() {
			t.Errorf("%s was written into, or shares memory with an answer", what)
		}
		if again := answersTo(g.request); !again.same(want) {
			t.Errorf("%s a second time: %+v, want %+v", what, again, want)
		}
	}
}

// A change of a request behind a call changes no answer that was given.
func TestAnswersOfRequestsStay(t *testing.T) {
	for i, r := range memoryRequests() {
		other := copiedRequest(r)
		got := answersTo(other)
		spoil(other.Leaf, spoilMark)
		spoil(other.Except, spoilMark)
		for _, list := range textPlaces(&other) {
			for _, text := range *list {
				spoil(text, spoilMark)
			}
			spoil(*list, nil)
		}
		if want := answersTo(r); !got.same(want) {
			t.Errorf("request %d: after a change: %+v, want %+v", i, got, want)
		}
	}
}

// No two answers share memory.
func TestAnswersShareNoMemory(t *testing.T) {
	for i, r := range memoryRequests() {
		first, second := impl.Validate(r), impl.Validate(r)
		want := slices.Clone(second.Path)
		spoil(first.Path, spoilMark)
		sameList(t, fmt.Sprintf("request %d: another answer", i), second.Path, want)
		sameList(t, fmt.Sprintf("request %d: a later answer", i), impl.Validate(r).Path, want)
	}
}

func TestWitnessKeepsNoPath(t *testing.T) {
	r := sound(2).request()
	for _, path := range [][]int{nil, {}, {0}, {0, 1, 0}, {1, 0, 0}, {0, 1, 1}, {0, 1, 0, 0, 0, 0}, {-1}} {
		want := impl.Witness(r, slices.Clip(slices.Clone(path)))
		for _, mark := range []int{0, 1, -1, roomMark} {
			g := guard(path, mark)
			saysWitness(t, "with spare room", r, g.list, want)
			if g.touched() {
				t.Errorf("Witness wrote into %v", path)
			}
		}
	}
	path := []int{0, 1, 0}
	saysWitness(t, "at first", r, path, true)
	path[1] = 0
	saysWitness(t, "changed", r, path, false)
	path[1] = 1
	saysWitness(t, "and back", r, path, true)
}

// What stands there at a call is what is told of, whatever stood there ahead of it.
func TestRequestsAreNotKept(t *testing.T) {
	a := sound(1)
	r, path := a.request(), a.path()
	for _, text := range slices.Concat([][]byte{r.Leaf}, r.Pool, r.Lists) {
		for at := len(text) - 3; at < len(text); at++ {
			saysAnswer(t, "at first", r, impl.Answer{Path: path})
			text[at] ^= 1
			saysReckoned(t, "a byte turned", r)
			text[at] ^= 1
		}
	}
	r.Except = []int{1}
	broken := a.turned(0, breaches()[15]).request()
	r.Leaf = broken.Leaf
	saysAnswer(t, "another leaf", r, impl.Answer{Code: 6, Fault: 15, Path: path})
	r.Except[0] = 15
	saysAnswer(t, "excepted", r, impl.Answer{Path: path})
	r.Except[0] = 1
	saysAnswer(t, "no longer excepted", r, impl.Answer{Code: 6, Fault: 15, Path: path})
	r.Anchors[0] = nil
	saysAnswer(t, "no anchor", r, impl.Answer{Code: 2, Fault: 1, At: 2})
}

// What was asked ahead does not count.
func TestRequestsInAnyOrder(t *testing.T) {
	list := []impl.Request{{}, sound(2).request()}
	for _, flaws := range flawsByCode() {
		list = append(list, flawed(sound(2), flaws[0]), flawed(sound(2), flaws[1]))
	}
	alone := []requestAnswers{}
	for _, r := range list {
		alone = append(alone, answersTo(r))
	}
	for i := range list {
		for j := range list {
			impl.Validate(list[i])
			impl.Report(list[i])
			if got := answersTo(list[j]); !got.same(alone[j]) {
				t.Errorf("%d behind %d: %+v, want %+v", j, i, got, alone[j])
			}
		}
	}
}

// Several calls at one time answer as one does, and no goroutine is left behind.
func TestRequestsSideBySide(t *testing.T) {
	was := runtime.NumGoroutine()
	list := []impl.Request{{}, sound(2).request(), sound(0).voided(0).request()}
	for _, flaws := range flawsByCode() {
		list = append(list, flawed(sound(2), flaws[0]))
	}
	want := []requestAnswers{}
	for _, r := range list {
		want = append(want, answersTo(r))
	}
	var all sync.WaitGroup
	for first := range 16 {
		all.Go(func() {
			for i := range 4 * len(list) {
				at := (first + i) % len(list)
				if got := answersTo(list[at]); !got.same(want[at]) {
					t.Errorf("request %d side by side: %+v, want %+v", at, got, want[at])
				}
			}
		})
	}
	all.Wait()
	if !settled(was) {
		t.Errorf("%d goroutines, at first %d", runtime.NumGoroutine(), was)
	}
}

// Very great and very low numbers.
func TestRequestsOfNumbersFarOff(t *testing.T) {
	r := sound(1).request()
	for _, n := range veryFar() {
		other := r
		other.Now = n
		saysAnswer(t, "Now", other, beyond)
		saysWitness(t, "Now", other, []int{0, 0}, false)
		other.Purpose = n
		saysAnswer(t, "both", other, beyond)
		other.Now = r.Now
		saysAnswer(t, "Purpose", other, beyond)
		saysWitness(t, "Purpose", other, []int{0, 0}, false)
		other.Purpose, other.Except = r.Purpose, slices.Repeat([]int{n}, exceptMost)
		saysAnswer(t, "Except", other, impl.Answer{Path: []int{0, 0}})
	}
}

// greatestAsking has as many certificates and lists as can be, of as many bytes as can be, which all issue each other.
func greatestAsking(by signer) asking {
	a := asking{hall: greatestHall(by), now: chainNow, purpose: purposeMost, strict: true, except: append(counted(1, rulesMost), 0, 0, 0, 0, 0)}
	list := greatestCrl()
	list.From, list.Serials = timeLeast, counted(serialMost-voidMost, voidMost)
	a.lists = slices.Repeat([]impl.Crl{sealedCrl(list, by)}, listsMost)
	return a
}

func TestRequestsEndSoon(t *testing.T) {
	s := turn(832)
	path := []int{0, 1, 2, 3, 0}
	for _, by := range slices.Concat(s.rsaSigners(512, 65537), s.rsaSigners(512, 65535), quickSigners()) {
		a := greatestAsking(by)
		r := a.request()
		endsSoon(t, by.name, func() { saysAnswer(t, by.name, r, impl.Answer{Path: path}) })
		r.Purpose = 1
		endsSoon(t, by.name, func() { saysAnswer(t, by.name+", no path is well", r, impl.Answer{Code: 3, Fault: 9}) })
		a.except = nil
		endsSoon(t, by.name, func() {
			saysAnswer(t, by.name+", a rule is broken", a.request(), impl.Answer{Code: 6, Fault: brokenBy(a.leaf)[0], Path: path})
		})
		other := a.anchors[0]
		other.Key = plainCert().Key
		a.anchors = slices.Repeat([]impl.Cert{other}, anchorsMost)
		endsSoon(t, by.name, func() { saysAnswer(t, by.name+", no way out", a.request(), impl.Answer{Code: 3, Fault: 2}) })
	}
}

func TestLongRequestsEndSoon(t *testing.T) {
	r := sound(1).request()
	path := []int{0, 0}
	long := make([]byte, 1<<24)
	for name := range textPlaces(&r) {
		other := copiedRequest(r)
		list := textPlaces(&other)[name]
		*list = slices.Repeat((*list)[:1], 1<<13)
		endsSoon(t, name, func() { saysAnswer(t, "many of "+name, other, beyond) })
		endsSoon(t, name, func() { saysWitness(t, "many of "+name, other, path, name == "Lists") })
		*list = make([][]byte, 1<<20)
		endsSoon(t, name, func() { saysAnswer(t, "many empty ones of "+name, other, beyond) })
		endsSoon(t, name, func() { saysWitness(t, "many empty ones of "+name, other, path, false) })
		*list = slices.Repeat([][]byte{long}, 1<<20)
		endsSoon(t, name, func() { saysAnswer(t, "many long ones of "+name, other, beyond) })
		endsSoon(t, name, func() { saysWitness(t, "many long ones of "+name, other, path, false) })
	}
	for place, other := range spoiltAt(r, long) {
		what := fmt.Sprintf("a long one at %d", place)
		endsSoon(t, what, func() { saysAnswer(t, what, other, beyond) })
		endsSoon(t, what, func() { saysWitness(t, what, other, path, false) })
	}
	for what, host := range map[string]string{"a": strings.Repeat("a", 1<<24), "labels": strings.Repeat("a.", 1<<23) + "a", "numbers": strings.Repeat("1.", 1<<23) + "1", "a star": "*." + strings.Repeat("a", 1<<24)} {
		other := r
		other.Host = host
		endsSoon(t, what, func() { saysAnswer(t, "a long host: "+what, other, beyond) })
		endsSoon(t, what, func() { saysWitness(t, "a long host: "+what, other, path, true) })
	}
	other := r
	other.Except = make([]int, 1<<24)
	endsSoon(t, "Except", func() { saysAnswer(t, "many of Except", other, beyond) })
	endsSoon(t, "Except", func() { saysWitness(t, "many of Except", other, path, true) })
	endsSoon(t, "a long path", func() { saysWitness(t, "a long path", r, make([]int, 1<<24), false) })
}
