package tests

import (
	"slices"
	"testing"
)

// samples are those of RFC 3492 that are no longer than a word, and some by hand.
func samples() map[string][]int {
	return map[string][]int{
		"egbpdaj6bu4bxfgehfvwxn":      {1604, 1610, 1607, 1605, 1575, 1576, 1578, 1603, 1604, 1605, 1608, 1588, 1593, 1585, 1576, 1610, 1567},
		"ihqwcrb4cv8a8dqg056pqjye":    {20182, 20204, 20026, 20160, 20040, 19981, 35828, 20013, 25991},
		"ihqwctvzc91f659drss3x8bo0yb": {20182, 20497, 29234, 20160, 40637, 19981, 35498, 20013, 25991},
		"3B-ww4c5e180e575a65lsy2b":    {51, 24180, 66, 32068, 37329, 20843, 20808, 29983},
		"2-u9tlzr9756bt3uc0v":         {12402, 12392, 12388, 23627, 26681, 12398, 19979, 50},
		"MajiKoi5-783gue6qz075azm5e":  {77, 97, 106, 105, 12391, 75, 111, 105, 12377, 12427, 53, 31186, 21069},
		"de-jg4avhby1noc0d":           {12497, 12501, 12451, 12540, 100, 101, 12523, 12531, 12496},
		"d9juau41awczczp":             {12381, 12398, 12473, 12500, 12540, 12489, 12391},
		"-> $1.00 <--":                {45, 62, 32, 36, 49, 46, 48, 48, 32, 60, 45},
		"bcher-kva":                   {98, 252, 99, 104, 101, 114},
		"hll-qla6g":                   {104, 228, 108, 108, 246},
		"abc-":                        {97, 98, 99},
		"\x00-":                       {0},
		"\x7f-":                       {127},
		"--":                          {45},
		"a--":                         {97, 45},
		"--ba":                        {45, 128},
		"---le24y":                    {45, 45, letterMost},
		"A-ba":                        {65, 128},
		"a":                           {128},
		"ba":                          {129},
		"aa":                          {128, 128},
		"tda":                         {252},
		"lzg":                         {8364},
		"ib9b":                        {55296},
		"dn32g":                       {letterMost},
		"\x00-h023p":                  {0, letterMost},
		"\x00-g023p":                  {letterMost, 0},
		"aaaaaaaaaaaaaaaaaaaa":        many(128, 20),
		"dn32gaaaaaaaaaaaaaaaaaaa":    many(letterMost, 20),
		"aaaaaaaaaa719463jbabbbbbbbb": slices.Repeat([]int{letterMost, 128}, 10),
	}
}

func TestPunySamples(t *testing.T) {
	for text, word := range samples() {
		writesPuny(t, word, text)
		readsPuny(t, text, word)
		if punyOf(word) != text {
			t.Errorf("the tests' own puny text of %v: %q", word, punyOf(word))
		}
		sameList(t, "the tests' own word of "+text, wordOf(text), word)
	}
}

// A word comes back from its puny text, where that has at most 60 bytes.
func TestWordsComeBack(t *testing.T) {
	short, long := 0, 0
	for _, word := range words() {
		text := punyOf(word)
		writesPuny(t, word, text)
		if len(text) > punyBytes {
			long++
			readsPuny(t, text, nil)
			continue
		}
		short++
		readsPuny(t, text, word)
	}
	if short < 5000 || long < 100 {
		t.Errorf("only %d short and %d long ones", short, long)
	}
}

func TestEachNumberComesBack(t *testing.T) {
	step := 1
	for n := 0; n <= letterMost; n += step {
		// All of those of few bytes, then some.
		if n > 70000 && n < letterMost-1000 {
			step = 97
		} else {
			step = 1
		}
		for _, word := range [][]int{{n}, {98, n}, {n, 300}} {
			text := punyOf(word)
			writesPuny(t, word, text)
			readsPuny(t, text, word)
		}
	}
}

func TestPunyRefuses(t *testing.T) {
	for _, word := range wrongWords() {
		refusesWord(t, word)
	}
	for size := range 40 {
		for _, n := range []int{0, 97, 128, letterMost} {
			if size >= 1 && size <= wordMost {
				writesPuny(t, many(n, size), punyOf(many(n, size)))
			} else {
				refusesWord(t, many(n, size))
			}
		}
	}
}
