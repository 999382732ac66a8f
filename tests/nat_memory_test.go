package tests

import (
	"slices"
	"testing"

	"loop.example/g00148/impl"
)

// guarded is a list with spare room behind it, and a picture of both.
type guarded[D comparable] struct {
	list    []D
	picture []D
}

func guard[D comparable](list []D, mark D) guarded[D] {
	room := append(slices.Clone(list), slices.Repeat([]D{mark}, 70)...)
	return guarded[D]{room[:len(list)], slices.Clone(room)}
}

func (g guarded[D]) touched() bool {
	return !slices.Equal(g.list[:cap(g.list)][:len(g.picture)], g.picture)
}

// spoil writes over an answer and all the room that it hands out.
func spoil[D any](list []D, mark D) {
	list = list[:cap(list)]
	for i := range list {
		list[i] = mark
	}
}

// What is listed is digits or bytes: marks are both.
type listed interface {
	int | byte
}

const (
	roomMark  = 147
	spoilMark = 213
)

// listCall is a function of lists as one that answers lists.
type listCall[D listed] func(args [][]D) [][]D

// guardAll guards each list, and answers the lists with room behind them too.
func guardAll[D listed](lists [][]D) ([]guarded[D], [][]D) {
	all := make([]guarded[D], len(lists))
	args := make([][]D, len(lists))
	for i, list := range lists {
		all[i] = guard(list, roomMark)
		args[i] = all[i].list
	}
	return all, args
}

func anyTouched[D listed](all []guarded[D]) bool {
	return slices.ContainsFunc(all, guarded[D].touched)
}

func clipped[D listed](lists [][]D) [][]D {
	copies := make([][]D, len(lists))
	for i, list := range lists {
		copies[i] = slices.Clip(slices.Clone(list))
	}
	return copies
}

// standsAlone calls with guarded arguments, spoils each answer in its turn, and looks that nothing else has changed.
func standsAlone[D listed](t *testing.T, what string, lists [][]D, call listCall[D]) {
	t.Helper()
	all, args := guardAll(lists)
	plain := call(clipped(lists))
	answers := call(args)
	for i, answer := range answers {
		sameList(t, what+", with spare room behind its arguments", answer, plain[i])
	}
	if anyTouched(all) {
		t.Errorf("%s%v wrote into an argument", what, lists)
	}
	for i, answer := range answers {
		spoil(answer, spoilMark)
		for j := i + 1; j < len(answers); j++ {
			sameList(t, what+": another answer, after one was written over", answers[j], plain[j])
		}
		if anyTouched(all) {
			t.Errorf("%s%v: answer %d shares memory with an argument", what, lists, i)
		}
	}
	for i, answer := range call(args) {
		sameList(t, what+", a second time", answer, plain[i])
	}
}

// takesOneListForAll hands one list in as every argument.
func takesOneListForAll[D listed](t *testing.T, what string, list []D, many int, call listCall[D]) {
	t.Helper()
	one := guard(list, roomMark)
	args := make([][]D, many)
	for i := range args {
		args[i] = one.list
	}
	want := call(clipped(args))
	for i, answer := range call(args) {
		sameList(t, what+" of one list for all", answer, want[i])
		spoil(answer, spoilMark)
	}
	if one.touched() {
		t.Errorf("%s of %v for all touched it", what, list)
	}
}

// natCalls are the functions of two naturals.
func natCalls() map[string]listCall[int] {
	return map[string]listCall[int]{
		"NatAdd": func(args [][]int) [][]int { c, _ := impl.NatAdd(args[0], args[1]); return [][]int{c} },
		"NatSub": func(args [][]int) [][]int { c, _ := impl.NatSub(args[0], args[1]); return [][]int{c} },
		"NatMul": func(args [][]int) [][]int { c, _ := impl.NatMul(args[0], args[1]); return [][]int{c} },
		"NatDiv": func(args [][]int) [][]int { c, d, _ := impl.NatDiv(args[0], args[1]); return [][]int{c, d} },
		"the others": func(args [][]int) [][]int {
			n, _ := impl.NatInt(args[0])
			m, _ := impl.NatInt(args[1])
			return [][]int{{n, m, impl.NatCompare(args[0], args[1]), impl.NatBits(args[0]), impl.NatBits(args[1])}}
		},
	}
}

func TestNatsStandAlone(t *testing.T) {
	lists := [][]int{nil, {1}, {7}, {65535}, {0, 1}, {5, 6}, {65535, 65535}, {3, 0, 32768}, {1, 0, 8192}, many(65535, 31), power(1, 32), many(65535, 64)}
	lists = append(lists, []int{0}, []int{-1}, many(1, 65))
	for what, call := range natCalls() {
		for _, a := range lists {
			for _, b := range lists {
				standsAlone(t, what, [][]int{a, b}, call)
			}
		}
	}
}

func TestOneListAsBothArguments(t *testing.T) {
	for what, call := range natCalls() {
		for _, a := range naturals() {
			takesOneListForAll(t, what, a, 2, call)
		}
	}
}

func TestNatBytesStandAlone(t *testing.T) {
	for _, a := range append(naturals(), wrongNaturals()...) {
		for _, size := range []int{-1, 0, 1, 2, 3, 64, 128, 129} {
			g := guard(a, 4711)
			want, _ := impl.NatBytes(slices.Clone(a), size)
			got, _ := impl.NatBytes(g.list, size)
			if !slices.Equal(got, want) {
				t.Errorf("NatBytes(%v, %d) reads spare room: %v and %v", a, size, got, want)
			}
			spoil(got, 1)
			if g.touched() {
				t.Errorf("NatBytes(%v, %d) wrote into its argument", a, size)
			}
		}
	}
}

func TestNatReadStandsAlone(t *testing.T) {
	s := turn(4)
	for size := 0; size <= 130; size++ {
		b := make([]byte, size)
		for i := range b {
			b[i] = byte(s.below(256))
		}
		g := guard(b, 77)
		want, _ := impl.NatRead(slices.Clone(b))
		got, _ := impl.NatRead(g.list)
		sameList(t, "NatRead with spare room", got, want)
		spoil(got, 4713)
		if g.touched() {
			t.Errorf("NatRead of %d bytes wrote into its argument", size)
		}
		again, _ := impl.NatRead(g.list)
		sameList(t, "NatRead a second time", again, want)
	}
}

func TestNatOfStandsAlone(t *testing.T) {
	for _, n := range []int{-1, 0, 1, 65536, 1<<63 - 1} {
		first, _ := impl.NatOf(n)
		second, _ := impl.NatOf(n)
		want := slices.Clone(second)
		spoil(first, 4713)
		sameList(t, "NatOf, after another answer was written over", second, want)
		third, _ := impl.NatOf(n)
		sameList(t, "NatOf a second time", third, want)
	}
}
