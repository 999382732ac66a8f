package tests

import (
	"math/big"
	"slices"
	"strings"
	"testing"
)

func TestReadPunyRefuses(t *testing.T) {
	wrong := []string{
		"", "-", "-a", "-abc", "-ba", "-kva", "--a-\xff", "a-b", "a-9", "b", "bb", "999", "9", "99999",
		"bcher-KVA", "bcher-Kva", "bcher-kvA", "bcher-kv", "bcher-k", "bcher-kva.", "bcher-kv_", "bcher-kv ", "bcher-k va", "bcher-\x00", "bcher-kva\x00", "bcher-kv\xe1", "A", "Aa", "aA", "Z", "@", "[", "`", "{", "/", ":", "*", ".",
		"b\xfccher-", "bücher-", "\x80-", "\xff-", "é-", "é-a", "\xc3-a", "a\x80-a", "a-é", "a-\x80", "a-\xff", "é", "日本", "\xff", "\ufffd-", "ａ", "a-ａ", "K-\u212a",
	}
	for _, s := range wrong {
		readsPuny(t, s, nil)
	}
	for _, odd := range oddPieces() {
		// As a digit it is none, wherever it stands.
		for _, text := range []string{"kva", "ba", "dn32g"} {
			for at := range len(text) + 1 {
				readsPuny(t, text[:at]+odd+text[at:], nil)
				readsPuny(t, "bcher-"+text[:at]+odd+text[at:], nil)
			}
		}
		if odd[0] >= 128 {
			readsPuny(t, odd+"-", nil)
			readsPuny(t, "bcher"+odd+"-kva", nil)
		}
	}
}

func TestReadPunyMarks(t *testing.T) {
	for size := 1; size <= wordMost+5; size++ {
		dashes := strings.Repeat("-", size)
		if size == 1 || size > wordMost+1 {
			readsPuny(t, dashes, nil)
		} else {
			readsPuny(t, dashes, many(45, size-1))
		}
		readsPuny(t, dashes+"abc", wordOf(dashes+"abc"))
		readsPuny(t, "a"+dashes+"ba", wordOf("a"+dashes+"ba"))
	}
	readsPuny(t, "a-b-", []int{97, 45, 98})
	readsPuny(t, "-a-", []int{45, 97})
	readsPuny(t, "-a--", []int{45, 97, 45})
	for near := 1; near <= 30; near++ {
		text := strings.Repeat("q", near) + "-"
		if near <= wordMost {
			readsPuny(t, text, many(113, near))
		} else {
			readsPuny(t, text, nil)
		}
	}
}

// checkPuny holds the program against the tests' own reader; it tells whether there is a word.
func checkPuny(t *testing.T, s string) bool {
	t.Helper()
	word := wordOf(s)
	readsPuny(t, s, word)
	return len(word) > 0
}

func TestReadEachShortPuny(t *testing.T) {
	seen := tally{}
	check := func(text []byte) { seen.count(checkPuny(t, string(text))) }
	for size := range 3 {
		eachText(allBytes(), size, check)
	}
	eachText([]byte(punyFigures+"-A\x80"), 3, check)
	eachText([]byte("abcmyz0189-Z"), 4, check)
	eachText([]byte("abz09-"), 6, check)
	eachText([]byte("a9-"), 9, check)
	seen.enough(t, 10000)
}

func TestReadPunyOneChangeAway(t *testing.T) {
	seen := tally{}
	for i, word := range words() {
		text := []byte(punyOf(word))
		if i%9 != 0 || len(text) > punyBytes {
			continue
		}
		for at := range text {
			others := append(otherTexts(text, at), slices.Insert(slices.Clone(text), at, 'a'), slices.Insert(slices.Clone(text), at, '-'), slices.Insert(slices.Clone(text), at, '9'))
			for _, other := range others {
				seen.count(checkPuny(t, string(other)))
			}
		}
	}
	seen.enough(t, 10000)
}

func TestReadPunyByChance(t *testing.T) {
	seen := tally{}
	s := turn(340)
	for size := 1; size <= punyBytes+2; size++ {
		for range 400 {
			text := make([]byte, size)
			few := 2 + s.below(35)
			for at := range text {
				text[at] = punyFigures[s.below(few)]
			}
			if s.below(3) == 0 {
				text[s.below(size)] = '-'
			}
			seen.count(checkPuny(t, string(text)))
		}
	}
	seen.enough(t, 1000)
}

func TestReadPunyAtSixtyBytes(t *testing.T) {
	found := map[int]int{}
	s := turn(350)
	for range 20000 {
		word := s.someWord(12+s.below(9), 0, letterMost+1)
		text := punyOf(word)
		if len(text) < punyBytes-1 || len(text) > punyBytes+2 {
			continue
		}
		found[len(text)]++
		writesPuny(t, word, text)
		if len(text) <= punyBytes {
			readsPuny(t, text, word)
		} else {
			readsPuny(t, text, nil)
		}
	}
	for size := punyBytes - 1; size <= punyBytes+2; size++ {
		if found[size] < 50 {
			t.Errorf("only %d words of %d bytes", found[size], size)
		}
	}
	for _, of := range []string{"a", "b", "9", "-", "a-", "\x80", "é"} {
		for size := punyBytes - 2; size <= 3*punyBytes; size++ {
			checkPuny(t, strings.Repeat(of, size)[:size])
		}
	}
}

// A text that ends within a number is none, as is one with digits behind that are no number.
func TestReadPunyCutOff(t *testing.T) {
	for _, word := range words() {
		text, steps := nearOf(word), stepsOf(word)
		for i, s := range steps {
			digits := deltaText(big.NewInt(int64(s.delta)), s.bias)
			if i%4 == len(word)%4 && len(text)+len(digits) <= punyBytes {
				for size := 1; size < len(digits); size++ {
					readsPuny(t, text+digits[:size], nil)
				}
			}
			text += digits
		}
	}
}

func TestReadPunyOfManyNumbers(t *testing.T) {
	for size := 1; size <= punyBytes; size++ {
		if size <= wordMost {
			readsPuny(t, strings.Repeat("a", size), many(128, size))
		} else {
			readsPuny(t, strings.Repeat("a", size), nil)
		}
	}
	for near := 1; near <= wordMost+1; near++ {
		for farther := range wordMost + 2 {
			text := strings.Repeat("q", near) + "-" + strings.Repeat("a", farther)
			if near+farther <= wordMost {
				readsPuny(t, text, append(many(128, farther), many(113, near)...))
			} else {
				readsPuny(t, text, nil)
			}
		}
	}
}

// The greatest number is read in every place, and no greater one.
func TestReadPunyAtTheGreatest(t *testing.T) {
	for near := range wordMost {
		text := nearOf(many(97, near))
		for place := range near + 1 {
			delta := (letterMost-128)*(near+1) + place
			readsPuny(t, text+deltaText(big.NewInt(int64(delta)), 72), slices.Insert(many(97, near), place, letterMost))
			delta += near + 1
			readsPuny(t, text+deltaText(big.NewInt(int64(delta)), 72), nil)
		}
	}
	for size := 2; size <= wordMost; size++ {
		word := append(many(128, size-1), letterMost)
		steps := stepsOf(word)
		last := steps[size-1]
		text := strings.Repeat("a", size-1)
		for more := range 3 * size {
			digits := deltaText(big.NewInt(int64(last.delta+more)), last.bias)
			if more == 0 {
				readsPuny(t, text+digits, word)
			} else {
				readsPuny(t, text+digits, nil)
			}
		}
	}
}

// A delta that is a right one and some multiple of what a number holds is not taken for the right one.
func TestReadPunyOfVeryGreatDeltas(t *testing.T) {
	for _, word := range [][]int{{128}, {252}, {letterMost}, {98, 252, 99}, {128, 128, 128}, {97, 20182, 20204}} {
		text := nearOf(word)
		for _, s := range stepsOf(word) {
			delta := big.NewInt(int64(s.delta))
			for power := uint(25); len(text)+len(deltaText(new(big.Int).Lsh(big.NewInt(1), power), s.bias)) <= punyBytes; power++ {
				for _, times := range []int64{1, 2, 3, 5} {
					great := new(big.Int).Lsh(big.NewInt(times), power)
					checked := text + deltaText(great.Add(great, delta), s.bias)
					readsPuny(t, checked, nil)
					readsPuny(t, checked+"a", nil)
				}
			}
			text += deltaText(delta, s.bias)
		}
	}
	for size := 5; size <= punyBytes; size++ {
		for _, last := range []string{"", "a", "b", "z", "9", "aaa"} {
			text := strings.Repeat("9", size) + last
			readsPuny(t, text, nil)
			readsPuny(t, "x-"+text, nil)
			readsPuny(t, strings.Repeat("b", size)+last, wordOf(strings.Repeat("b", size)+last))
		}
	}
}
