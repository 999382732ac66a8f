package tests

import (
	"cmp"
	"fmt"
	"math/big"
	"slices"
	"strings"
	"testing"

	"loop.example/g00148/impl"
)

const (
	punyFigures = "abcdefghijklmnopqrstuvwxyz0123456789"
	punyBytes   = 60
	wordMost    = 20
	letterMost  = 1114111
)

// The puny texts of the tests are reckoned apart from the program: numbers are put in their places one by one, and deltas may be of any size.

func edgeAt(place int, bias int) int64 {
	return int64(min(max(36*(place+1)-bias, 1), 26))
}

func deltaText(delta *big.Int, bias int) string {
	text := ""
	for q := new(big.Int).Set(delta); ; {
		edge := edgeAt(len(text), bias)
		if q.Cmp(big.NewInt(edge)) < 0 {
			return text + punyFigures[q.Int64():][:1]
		}
		left := new(big.Int)
		q.DivMod(q.Sub(q, big.NewInt(edge)), big.NewInt(36-edge), left)
		text += punyFigures[edge+left.Int64():][:1]
	}
}

// readDeltaText is the delta at the beginning of a text, and what is behind; nil where there is none.
func readDeltaText(text string, bias int) (*big.Int, string) {
	delta, weight := new(big.Int), big.NewInt(1)
	for place := range len(text) {
		figure := int64(strings.IndexByte(punyFigures, text[place]))
		if figure < 0 {
			return nil, ""
		}
		delta.Add(delta, new(big.Int).Mul(big.NewInt(figure), weight))
		edge := edgeAt(place, bias)
		if figure < edge {
			return delta, text[place+1:]
		}
		weight.Mul(weight, big.NewInt(36-edge))
	}
	return nil, ""
}

// biasBehind is the next bias, told being how many numbers there are with the new one.
func biasBehind(delta int, first bool, told int) int {
	it := delta / 2
	if first {
		it = delta / 700
	}
	it += it / told
	k := 0
	for ; it > 455; k += 36 {
		it /= 35
	}
	return k + 36*it/(it+38)
}

// nearOf are the numbers below 128, as text with its mark.
func nearOf(word []int) string {
	text := ""
	for _, n := range word {
		if n < 128 {
			text += string(rune(n))
		}
	}
	if text == "" {
		return ""
	}
	return text + "-"
}

// step is one number that is told: by its delta, ahead of which the bias was so.
type step struct {
	delta int
	bias  int
}

// stepsOf puts the numbers from 128 on, the least first, in their places among those that are there.
func stepsOf(word []int) []step {
	there, coming := []int{}, []int{}
	for at, n := range word {
		if n < 128 {
			there = append(there, at)
		} else {
			coming = append(coming, at)
		}
	}
	slices.SortStableFunc(coming, func(a int, b int) int { return cmp.Compare(word[a], word[b]) })
	steps := []step{}
	n, behind, bias := 128, 0, 72
	for i, at := range coming {
		place := 0
		for _, other := range there {
			if other < at {
				place++
			}
		}
		there = append(there, at)
		delta := (word[at]-n)*len(there) + place - behind
		steps = append(steps, step{delta, bias})
		n, behind, bias = word[at], place+1, biasBehind(delta, i == 0, len(there))
	}
	return steps
}

func punyOf(word []int) string {
	text := nearOf(word)
	for _, s := range stepsOf(word) {
		text += deltaText(big.NewInt(int64(s.delta)), s.bias)
	}
	return text
}

// wordOf is the word of a text; nothing where there is none.
func wordOf(s string) []int {
	mark := strings.LastIndex(s, "-")
	if len(s) > punyBytes || mark == 0 {
		return nil
	}
	word := []int{}
	for at := range max(mark, 0) {
		if s[at] >= 128 {
			return nil
		}
		word = append(word, int(s[at]))
	}
	rest, n, place, bias := s[mark+1:], 128, 0, 72
	for first := true; rest != ""; first = false {
		delta, behind := readDeltaText(rest, bias)
		if delta == nil || delta.Cmp(big.NewInt(100*letterMost)) > 0 {
			return nil
		}
		told := len(word) + 1
		place += int(delta.Int64())
		n, place = n+place/told, place%told
		if n > letterMost {
			return nil
		}
		word = slices.Insert(word, place, n)
		place++
		rest, bias = behind, biasBehind(int(delta.Int64()), first, told)
	}
	if len(word) > wordMost {
		return nil
	}
	return word
}

func writesPuny(t *testing.T, word []int, want string) {
	t.Helper()
	got, ok := impl.Puny(word)
	if got != want || !ok {
		t.Errorf("Puny(%v): got %q %v, want %q true", word, got, ok, want)
	}
}

func refusesWord(t *testing.T, word []int) {
	t.Helper()
	if got, ok := impl.Puny(word); got != "" || ok {
		t.Errorf("Puny(%v): got %q %v, want nothing and false", word[:min(len(word), 30)], got, ok)
	}
}

// readsPuny wants just this word, or none; what is read is written as just that text.
func readsPuny(t *testing.T, s string, want []int) {
	t.Helper()
	got, ok := impl.ReadPuny(s)
	if len(want) == 0 {
		refused(t, fmt.Sprintf("ReadPuny(%q)", s[:min(len(s), 80)]), got, ok)
		return
	}
	sameList(t, fmt.Sprintf("ReadPuny(%q)", s), got, want)
	if !ok {
		t.Errorf("ReadPuny(%q): false", s)
	}
	writesPuny(t, got, s)
}

func letterEdges() []int {
	return []int{0, 1, 45, 46, 65, 90, 97, 122, 126, 127, 128, 129, 130, 252, 255, 256, 2047, 2048, 12354, 55295, 55296, 57343, 57344, 65533, 65535, 65536, 1114110, letterMost}
}

// someWord has numbers from low on and below high, with the edges more often than chance has it.
func (s *turn) someWord(size int, low int, high int) []int {
	word := []int{}
	for len(word) < size {
		n := low + s.below(high-low)
		if edge := letterEdges()[s.below(len(letterEdges()))]; s.below(3) == 0 && edge >= low && edge < high {
			n = edge
		}
		word = append(word, n)
		if s.below(4) == 0 && len(word) < size {
			word = append(word, n)
		}
	}
	return word
}

// words are of many kinds: all below 128, none, both, alike beside each other, far and near.
func words() [][]int {
	list := [][]int{}
	for n := range 400 {
		list = append(list, []int{n}, []int{n, n}, []int{97, n}, []int{n, 97})
	}
	for _, a := range letterEdges() {
		list = append(list, []int{a})
		for _, b := range letterEdges() {
			list = append(list, []int{a, b}, []int{a, b, a}, []int{a, a, b, b}, slices.Repeat([]int{a, b}, 10), append(many(a, 10), many(b, 10)...))
		}
		for size := 1; size <= wordMost; size++ {
			list = append(list, many(a, size))
		}
	}
	s := turn(330)
	for size := 1; size <= wordMost; size++ {
		for range 30 {
			list = append(list, s.someWord(size, 0, 128), s.someWord(size, 128, letterMost+1), s.someWord(size, 0, letterMost+1), s.someWord(size, 0, 700), s.someWord(size, 12352, 12450), s.someWord(size, letterMost-60, letterMost+1))
			mixed := append(s.someWord((size+1)/2, 0, 128), s.someWord(size/2, 19968, 40960)...)
			slices.SortFunc(mixed, func(a int, b int) int { return cmp.Compare(a*7919%1009, b*7919%1009) })
			rising := s.someWord(size, 0, letterMost+1)
			slices.Sort(rising)
			falling := slices.Clone(rising)
			slices.Reverse(falling)
			list = append(list, mixed, rising, falling)
		}
	}
	return list
}

// wrongWords are lists that are none, each for one reason.
func wrongWords() [][]int {
	list := [][]int{nil, {}, many(97, 21), many(128, 21), many(letterMost, 21), many(0, 21), many(97, 1000)}
	for _, n := range []int{-1, -128, letterMost + 1, 1 << 21, 1 << 32, 1<<32 + 97, 1<<63 - 1, -1 << 63} {
		list = append(list, []int{n})
		for _, size := range []int{2, 5, wordMost} {
			for at := range size {
				word := many(97+100*(at%2), size)
				word[at] = n
				list = append(list, word)
			}
		}
	}
	return list
}
