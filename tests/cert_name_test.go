package tests

import (
	"slices"
	"strings"
	"testing"

	"loop.example/g00148/impl"
)

func saysSame(t *testing.T, a []string, b []string, want bool) {
	t.Helper()
	if got := impl.NameSame(a, b); got != want {
		t.Errorf("NameSame(%q, %q): got %v, want %v", a, b, got, want)
	}
	if got := impl.NameSame(b, a); got != want {
		t.Errorf("NameSame(%q, %q): got %v, want %v", b, a, got, want)
	}
}

func saysSameText(t *testing.T, a string, b string, want bool) {
	t.Helper()
	saysSame(t, []string{a}, []string{b}, want)
	saysSame(t, []string{"x", a}, []string{"X", b}, want)
	saysSame(t, []string{a, "y "}, []string{b, "y"}, want)
	saysSame(t, []string{a, "x"}, []string{b, "y"}, false)
}

// wordsIn are what stands between blanks, by which texts are the same; reckoned apart from the program.
func wordsIn(text string) []string {
	return slices.DeleteFunc(strings.Split(lowerOf(text), " "), func(word string) bool { return word == "" })
}

func TestNameSameByHand(t *testing.T) {
	for _, pair := range [][2]string{
		{"", ""}, {"", " "}, {"", "     "}, {" ", "   "}, {"a", "a"}, {"a", "A"}, {"a", " a"}, {"a", "a "}, {"A", "   a   "}, {"Zz", "zZ"},
		{"a b", "A  B"}, {"a b", "  a      b  "}, {"a b c", "a  b   c"}, {"abc", "ABC"}, {"@[`{", "@[`{"}, {"é", "é"}, {"\xff", "\xff"}, {"\x00", "\x00"},
	} {
		saysSameText(t, pair[0], pair[1], true)
	}
	for _, pair := range [][2]string{
		{"", "a"}, {" ", "a"}, {"a", "b"}, {"ab", "a b"}, {"a b", "b a"}, {"a", "aa"}, {"a a", "a"}, {"a b c", "a bc"}, {"a b c", "ab c"},
		{"@", "`"}, {"[", "{"}, {"\\", "|"}, {"]", "}"}, {"^", "~"}, {"é", "É"}, {"k", "\u212a"}, {"s", "ſ"}, {"i", "İ"}, {"\xc9", "\xe9"}, {"\xff", "\xfe"}, {"\xff", "\ufffd"},
		{"a", "a\t"}, {"a", "\na"}, {"a b", "a\tb"}, {"a b", "a\u00a0b"}, {"a b", "a\u2003b"}, {"a", "a\x00"}, {"", "\t"}, {"a\tb", "a\t\tb"},
	} {
		saysSameText(t, pair[0], pair[1], false)
	}
}

func TestNameSameOfOtherLengths(t *testing.T) {
	saysSame(t, nil, nil, true)
	saysSame(t, nil, []string{}, true)
	saysSame(t, nil, []string{""}, false)
	saysSame(t, nil, []string{" "}, false)
	saysSame(t, []string{""}, []string{"", ""}, false)
	saysSame(t, []string{"a"}, []string{"a", "b"}, false)
	saysSame(t, []string{"a"}, []string{"a", ""}, false)
	saysSame(t, []string{"a"}, []string{"", "a"}, false)
	saysSame(t, []string{"a b"}, []string{"a", "b"}, false)
	saysSame(t, []string{"ab", "c"}, []string{"a", "bc"}, false)
	saysSame(t, []string{"a", "b"}, []string{"b", "a"}, false)
	saysSame(t, []string{"a", "b", "c", "d", "e", "f"}, []string{"A", " b", "c ", " D ", "e", "F"}, true)
	for size := range 10 {
		for other := range 10 {
			saysSame(t, slices.Repeat([]string{"A"}, size), slices.Repeat([]string{"a"}, other), size == other)
		}
	}
}

func TestNameSameOfEachShortText(t *testing.T) {
	texts := []string{}
	for size := range 5 {
		eachText([]byte("aAb "), size, func(text []byte) { texts = append(texts, string(text)) })
	}
	eachText([]byte{'a', ' ', '\t', 0xa0, 0xc2}, 3, func(text []byte) { texts = append(texts, string(text)) })
	seen := tally{}
	for _, a := range texts {
		for _, b := range texts {
			want := slices.Equal(wordsIn(a), wordsIn(b))
			if got := impl.NameSame([]string{a}, []string{b}); got != want {
				t.Errorf("NameSame of %q and %q: got %v, want %v", a, b, got, want)
			}
			seen.count(want)
		}
	}
	seen.enough(t, 3000)
}

// Each byte with each other: only capital letters are as small ones.
func TestNameSameOfEachByte(t *testing.T) {
	for a := range 256 {
		for b := range 256 {
			x, y := string([]byte{byte(a)}), string([]byte{byte(b)})
			want := lowerOf(x) == lowerOf(y)
			if got := impl.NameSame([]string{"q" + x + "q"}, []string{"q" + y + "q"}); got != want {
				t.Errorf("NameSame of bytes %d and %d: got %v, want %v", a, b, got, want)
			}
		}
	}
}
