package tests

import (
	"slices"
	"testing"

	"loop.example/g00148/impl"
)

// guarded is a list with spare room behind it, and a picture of both.
type guarded[D comparable] struct {
	list    []D
	picture []D
}

func guard[D comparable](list []D, mark D) guarded[D] {
	room := append(slices.Clone(list), slices.Repeat([]D{mark}, 70)...)
	return guarded[D]{room[:len(list)], slices.Clone(room)}
}

func (g guarded[D]) touched() bool {
	return !slices.Equal(g.list[:cap(g.list)][:len(g.picture)], g.picture)
}

// spoil writes over an answer and all the room that it hands out.
func spoil[D any](list []D, mark D) {
	list = list[:cap(list)]
	for i := range list {
		list[i] = mark
	}
}

// standsAlone calls with guarded arguments, spoils each answer in its turn, and looks that nothing else has changed.
func standsAlone(t *testing.T, what string, a []int, b []int, call func(a []int, b []int) [][]int) {
	t.Helper()
	first, second := guard(a, 4711), guard(b, 4712)
	plain := call(slices.Clip(slices.Clone(a)), slices.Clip(slices.Clone(b)))
	answers := call(first.list, second.list)
	for i, answer := range answers {
		sameDigits(t, what+", with spare room behind its arguments", answer, plain[i])
	}
	if first.touched() || second.touched() {
		t.Errorf("%s(%v, %v) wrote into an argument", what, a, b)
	}
	for i, answer := range answers {
		spoil(answer, 4713)
		for j := i + 1; j < len(answers); j++ {
			sameDigits(t, what+": another answer, after one was written over", answers[j], plain[j])
		}
		if first.touched() || second.touched() {
			t.Errorf("%s(%v, %v): answer %d shares memory with an argument", what, a, b, i)
		}
	}
	again := call(first.list, second.list)
	for i, answer := range again {
		sameDigits(t, what+", a second time", answer, plain[i])
	}
}

// pairCalls are the functions of two naturals, each as one that answers lists.
func pairCalls() map[string]func(a []int, b []int) [][]int {
	return map[string]func(a []int, b []int) [][]int{
		"NatAdd": func(a []int, b []int) [][]int { c, _ := impl.NatAdd(a, b); return [][]int{c} },
		"NatSub": func(a []int, b []int) [][]int { c, _ := impl.NatSub(a, b); return [][]int{c} },
		"NatMul": func(a []int, b []int) [][]int { c, _ := impl.NatMul(a, b); return [][]int{c} },
		"NatDiv": func(a []int, b []int) [][]int { c, d, _ := impl.NatDiv(a, b); return [][]int{c, d} },
		"the others": func(a []int, b []int) [][]int {
			n, _ := impl.NatInt(a)
			m, _ := impl.NatInt(b)
			return [][]int{{n, m, impl.NatCompare(a, b), impl.NatBits(a), impl.NatBits(b)}}
		},
	}
}

func TestNatsStandAlone(t *testing.T) {
	lists := [][]int{nil, {1}, {7}, {65535}, {0, 1}, {5, 6}, {65535, 65535}, {3, 0, 32768}, {1, 0, 8192}, many(65535, 31), power(1, 32), many(65535, 64)}
	lists = append(lists, []int{0}, []int{-1}, many(1, 65))
	for what, call := range pairCalls() {
		for _, a := range lists {
			for _, b := range lists {
				standsAlone(t, what, a, b, call)
			}
		}
	}
}

func TestOneListAsBothArguments(t *testing.T) {
	for what, call := range pairCalls() {
		for _, a := range naturals() {
			both := guard(a, 4711)
			want := call(slices.Clone(a), slices.Clone(a))
			for i, answer := range call(both.list, both.list) {
				sameDigits(t, what+" of one list and itself", answer, want[i])
				spoil(answer, 4713)
			}
			if both.touched() {
				t.Errorf("%s of %v and itself touched it", what, a)
			}
		}
	}
}

func TestNatBytesStandAlone(t *testing.T) {
	for _, a := range append(naturals(), wrongNaturals()...) {
		for _, size := range []int{-1, 0, 1, 2, 3, 64, 128, 129} {
			g := guard(a, 4711)
			want, _ := impl.NatBytes(slices.Clone(a), size)
			got, _ := impl.NatBytes(g.list, size)
			if !slices.Equal(got, want) {
				t.Errorf("NatBytes(%v, %d) reads spare room: %v and %v", a, size, got, want)
			}
			spoil(got, 1)
			if g.touched() {
				t.Errorf("NatBytes(%v, %d) wrote into its argument", a, size)
			}
		}
	}
}

func TestNatReadStandsAlone(t *testing.T) {
	s := turn(4)
	for size := 0; size <= 130; size++ {
		b := make([]byte, size)
		for i := range b {
			b[i] = byte(s.below(256))
		}
		g := guard(b, 77)
		want, _ := impl.NatRead(slices.Clone(b))
		got, _ := impl.NatRead(g.list)
		sameDigits(t, "NatRead with spare room", got, want)
		spoil(got, 4713)
		if g.touched() {
			t.Errorf("NatRead of %d bytes wrote into its argument", size)
		}
		again, _ := impl.NatRead(g.list)
		sameDigits(t, "NatRead a second time", again, want)
	}
}

func TestNatOfStandsAlone(t *testing.T) {
	for _, n := range []int{-1, 0, 1, 65536, 1<<63 - 1} {
		first, _ := impl.NatOf(n)
		second, _ := impl.NatOf(n)
		want := slices.Clone(second)
		spoil(first, 4713)
		sameDigits(t, "NatOf, after another answer was written over", second, want)
		third, _ := impl.NatOf(n)
		sameDigits(t, "NatOf a second time", third, want)
	}
}
