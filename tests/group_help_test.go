package tests

import (
	"fmt"
	"math"
	"slices"
	"testing"
)

// group is a curve of either kind, as the tests look at it: the program's sums and folds of its points or pairs, and sums reckoned apart.
type group[E comparable] struct {
	name     string
	zero     E
	base     E
	order    int
	add      func(a E, b E) (E, bool)
	mul      func(n int, a E) (E, bool)
	plainSum func(a E, b E) E
	opposite func(a E) E
	all      func() []E
	any      func(s *turn) E
}

// plainFold goes from the highest bit down.
func (g group[E]) plainFold(n int, a E) E {
	sum := g.zero
	for i := 62; i >= 0; i-- {
		sum = g.plainSum(sum, sum)
		if n>>i&1 == 1 {
			sum = g.plainSum(sum, a)
		}
	}
	return sum
}

// multiplesOf are zero, a, and on, until zero would come again.
func (g group[E]) multiplesOf(a E) []E {
	list := []E{g.zero}
	for b := a; b != g.zero; b = g.plainSum(b, a) {
		list = append(list, b)
	}
	return list
}

func (g group[E]) sum(t *testing.T, a E, b E) E {
	t.Helper()
	c, ok := g.add(a, b)
	if !ok {
		t.Errorf("by %s: the sum of %v and %v is refused", g.name, a, b)
	}
	return c
}

func (g group[E]) fold(t *testing.T, n int, a E) E {
	t.Helper()
	c, ok := g.mul(n, a)
	if !ok {
		t.Errorf("by %s: %d times %v is refused", g.name, n, a)
	}
	return c
}

// same is for answers that were not refused.
func (g group[E]) same(t *testing.T, what string, got E, want E) {
	t.Helper()
	if got != want {
		t.Errorf("by %s: %s: got %v, want %v", g.name, what, got, want)
	}
}

func sameElement[E comparable](t *testing.T, what string, got E, ok bool, want E) {
	t.Helper()
	if !ok || got != want {
		t.Errorf("%s: got %v %v, want %v true", what, got, ok, want)
	}
}

func refusedElement[E comparable](t *testing.T, what string, got E, ok bool) {
	t.Helper()
	if zero := *new(E); ok || got != zero {
		t.Errorf("%s: got %v %v, want the zero value and false", what, got, ok)
	}
}

// sumsOf are the places of all sums among the elements, as the program tells them.
func (g group[E]) sumsOf(t *testing.T, elements []E) [][]int {
	t.Helper()
	place := map[E]int{}
	for i, a := range elements {
		place[a] = i
	}
	sums := make([][]int, len(elements))
	for i, a := range elements {
		for _, b := range elements {
			c := g.sum(t, a, b)
			at, of := place[c]
			if !of {
				t.Fatalf("by %s: the sum of %v and %v is %v, which is not of it", g.name, a, b, c)
			}
			g.same(t, fmt.Sprintf("the sum of %v and %v", a, b), c, g.plainSum(a, b))
			sums[i] = append(sums[i], at)
		}
	}
	return sums
}

// isAGroup looks at all elements, three at a time.
func (g group[E]) isAGroup(t *testing.T) {
	t.Helper()
	elements := g.all()
	sums := g.sumsOf(t, elements)
	for i, a := range elements {
		g.same(t, "with zero", g.sum(t, a, g.zero), a)
		g.same(t, "zero with it", g.sum(t, g.zero, a), a)
		g.same(t, "with its other side", g.sum(t, a, g.opposite(a)), g.zero)
		for j := range elements {
			if sums[i][j] != sums[j][i] {
				t.Errorf("by %s: %v and %v turned about are another one", g.name, a, elements[j])
			}
			for l := range elements {
				if sums[sums[i][j]][l] != sums[i][sums[j][l]] {
					t.Fatalf("by %s: %v, %v and %v put together otherwise are another one", g.name, a, elements[j], elements[l])
				}
			}
		}
	}
}

// isAGroupAtLarge looks at some elements of very many.
func (g group[E]) isAGroupAtLarge(t *testing.T, s *turn) {
	t.Helper()
	for range 300 {
		a, b, c := g.any(s), g.any(s), g.any(s)
		ab := g.sum(t, a, b)
		g.same(t, "a sum", ab, g.plainSum(a, b))
		g.same(t, "a sum turned about", g.sum(t, b, a), ab)
		g.same(t, "three put together otherwise", g.sum(t, ab, c), g.sum(t, a, g.sum(t, b, c)))
		g.same(t, "with its other side", g.sum(t, a, g.opposite(a)), g.zero)
		g.same(t, "its other side with it", g.sum(t, g.opposite(a), a), g.zero)
		g.same(t, "with itself", g.sum(t, a, a), g.plainSum(a, a))
		g.same(t, "with zero", g.sum(t, a, g.zero), a)
		g.same(t, "zero with it", g.sum(t, g.zero, a), a)
		g.same(t, "less one", g.sum(t, ab, g.opposite(b)), a)
	}
}

// foldsAreSums looks at every element taken each number of times, twice around.
func (g group[E]) foldsAreSums(t *testing.T) {
	t.Helper()
	for _, a := range g.all() {
		list := g.multiplesOf(a)
		told := g.zero
		for n := range 2*len(list) + 2 {
			g.same(t, fmt.Sprintf("%d times %v", n, a), g.fold(t, n, a), list[n%len(list)])
			g.same(t, "sums one by one", told, list[n%len(list)])
			told = g.sum(t, told, a)
		}
	}
}

func (g group[E]) multiplesAddUp(t *testing.T, s *turn) {
	t.Helper()
	for range 30 {
		a := g.any(s)
		m, n := s.below(1<<31)*s.below(1<<8), s.below(1<<31)*s.below(1<<8)
		g.same(t, "two multiples", g.sum(t, g.fold(t, m, a), g.fold(t, n, a)), g.fold(t, m+n, a))
		g.same(t, "a multiple", g.fold(t, m, a), g.plainFold(m, a))
		m, n = m%(1<<20), n%(1<<20)
		g.same(t, "a multiple of a multiple", g.fold(t, m, g.fold(t, n, a)), g.fold(t, m*n, a))
	}
}

// foldEdges are the numbers of times that the document names, and those near by.
func foldEdges(order int) []int {
	return []int{0, 1, 2, 3, 7, 8, 9, order - 1, order, order + 1, 2 * order, 1<<39 + 1, 1<<40 - 1, 1 << 40}
}

func wrongFolds() []int {
	return []int{-1, -2, 1<<40 + 1, 1 << 41, 1 << 62, math.MaxInt, math.MinInt, -1 << 40}
}

func (g group[E]) foldsAtTheEdges(t *testing.T, s *turn) {
	t.Helper()
	g.same(t, "0 times", g.fold(t, 0, g.base), g.zero)
	g.same(t, "once", g.fold(t, 1, g.base), g.base)
	g.same(t, "once less than the order", g.fold(t, g.order-1, g.base), g.opposite(g.base))
	g.same(t, "as often as the order", g.fold(t, g.order, g.base), g.zero)
	g.same(t, "once more than the order", g.fold(t, g.order+1, g.base), g.base)
	for _, a := range []E{g.zero, g.base, g.opposite(g.base), g.any(s)} {
		for _, n := range foldEdges(g.order) {
			g.same(t, fmt.Sprintf("%d times %v", n, a), g.fold(t, n, a), g.plainFold(n, a))
		}
		for _, n := range wrongFolds() {
			c, ok := g.mul(n, a)
			refusedElement(t, fmt.Sprintf("by %s: %d times", g.name, n), c, ok)
		}
	}
}

// answersStandAlone looks that no two answers of tell share memory.
func answersStandAlone[D listed](t *testing.T, what string, tell func() ([]D, bool)) {
	t.Helper()
	first, _ := tell()
	second, _ := tell()
	want := slices.Clone(second)
	spoil(first, spoilMark)
	sameList(t, what+": after another answer was written over", second, want)
	third, _ := tell()
	sameList(t, what+" a second time", third, want)
}

// readStandsAlone looks that read neither reads nor writes what lies behind a text, nor writes into it.
func readStandsAlone[E comparable](t *testing.T, texts []string, read func(b []byte) (E, bool)) {
	t.Helper()
	for _, text := range texts {
		for _, mark := range []byte{0, 1, 23, 128, 255} {
			g := guard([]byte(text), mark)
			want, wantOk := read(slices.Clip([]byte(text)))
			got, ok := read(g.list)
			if got != want || ok != wantOk {
				t.Errorf("%q: spare room is read: %v %v and %v %v", text, got, ok, want, wantOk)
			}
			if g.touched() {
				t.Errorf("%q was written into", text)
			}
		}
	}
}
