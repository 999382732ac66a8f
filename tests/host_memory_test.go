package tests

import (
	"fmt"
	"strings"
	"testing"
	"unsafe"

	"loop.example/g00148/impl"
)

// byteNumbers are a text's bytes as a list, so that texts can be answered as lists are.
func byteNumbers(s string, ok bool) []int {
	list := []int{}
	for at := range len(s) {
		list = append(list, int(s[at]))
	}
	if ok {
		return append(list, 1)
	}
	return append(list, 0)
}

func TestHostListsStandAlone(t *testing.T) {
	puny := func(args [][]int) [][]int { return [][]int{byteNumbers(impl.Puny(args[0]))} }
	for i, word := range append(words(), wrongWords()...) {
		if i%5 == 0 || len(word) >= wordMost {
			standsAlone(t, "Puny", [][]int{word}, puny)
		}
	}
	write := func(args [][]int) [][]int { return [][]int{byteNumbers(impl.WriteAddress(args[0]))} }
	for i, a := range append(addresses(), wrongAddresses()...) {
		if i%5 == 0 || i > 4000 {
			standsAlone(t, "WriteAddress", [][]int{a}, write)
		}
	}
}

func TestNetsStandAlone(t *testing.T) {
	lists := append(wrongAddresses(), []int{0, 0, 0, 0}, []int{1, 2, 3, 4}, []int{1, 2, 3, 5}, []int{255, 255, 255, 255})
	for _, bits := range append(wrongBits(), 0, 1, 8, 31, 32) {
		inNet := func(args [][]int) [][]int { return [][]int{byteNumbers("", impl.InNet(args[0], bits, args[1]))} }
		for _, net := range lists {
			takesOneListForAll(t, "InNet", net, 2, inNet)
			for _, a := range lists {
				standsAlone(t, "InNet", [][]int{net, a}, inNet)
			}
		}
	}
}

func TestReadHostsStandAlone(t *testing.T) {
	for _, s := range []string{"", "0.0.0.0", "1.2.3.4", "255.255.255.255", "1.2.3", "1.2.3.4.5", "1.2.3.256", "1.2.3.04"} {
		answersStandAlone(t, fmt.Sprintf("ReadAddress(%q)", s), func() ([]int, bool) { return impl.ReadAddress(s) })
	}
	for s := range samples() {
		answersStandAlone(t, fmt.Sprintf("ReadPuny(%q)", s), func() ([]int, bool) { return impl.ReadPuny(s) })
	}
	for _, s := range []string{"", "-", "bcher-kv", "é-", strings.Repeat("a", 21), strings.Repeat("9", 60), strings.Repeat("a", 61)} {
		answersStandAlone(t, fmt.Sprintf("ReadPuny(%q)", s), func() ([]int, bool) { return impl.ReadPuny(s) })
	}
}

func TestLowerIsNewMemory(t *testing.T) {
	for _, s := range []string{"abc", "ABC", "aBc", "\xff\xfe", "日本", strings.Repeat("a", 1000)} {
		// A text of more than one byte has a place of its own.
		if got := impl.Lower(s); unsafe.StringData(got) == unsafe.StringData(s) {
			t.Errorf("Lower(%q) shares memory with its argument", s)
		}
	}
}

func TestHostsEndSoon(t *testing.T) {
	for _, of := range []string{"a", ".", "-", "*.", "a.", "0", "0.", "9", "A", "\x00", "\x80", "\xff", "é", "日", "😀"} {
		long := strings.Repeat(of, 1<<22)
		endsSoon(t, "HostOk", func() { saysHost(t, long, false) })
		endsSoon(t, "Lower", func() {
			if len(impl.Lower(long)) != len(long) {
				t.Errorf("Lower of many %q", of)
			}
		})
		for _, s := range []string{long, "*." + long, "*.a." + long, "*." + long + ".a"} {
			endsSoon(t, "PatternOk", func() { saysPattern(t, s, false) })
			endsSoon(t, "HostMatch", func() { saysMatch(t, s, s, false) })
			endsSoon(t, "HostMatch of a long host", func() { saysMatch(t, "*.a.org", s, false) })
			endsSoon(t, "HostMatch of a long pattern", func() { saysMatch(t, s, "x.a.org", false) })
			endsSoon(t, "Under", func() { saysUnder(t, s, s, false) })
			endsSoon(t, "Under a short one", func() { saysUnder(t, "a", s, false) })
			endsSoon(t, "Under a long one", func() { saysUnder(t, s, "a", false) })
		}
		endsSoon(t, "ReadAddress", func() { readsAddress(t, long, nil) })
		endsSoon(t, "ReadAddress with an address ahead", func() { readsAddress(t, "1.2.3.4."+long, nil) })
		endsSoon(t, "ReadPuny", func() { readsPuny(t, long, nil) })
		endsSoon(t, "ReadPuny behind a mark", func() { readsPuny(t, "a-"+long, nil) })
		endsSoon(t, "ReadPuny ahead of a mark", func() { readsPuny(t, long+"-", nil) })
	}
	for _, n := range []int{0, 97, 128, letterMost} {
		list := many(n, 1<<22)
		endsSoon(t, "Puny", func() { refusesWord(t, list) })
		endsSoon(t, "Puny of the most", func() { writesPuny(t, list[:wordMost], punyOf(list[:wordMost])) })
		endsSoon(t, "InNet", func() { saysInNet(t, list, 8, list, false) })
		endsSoon(t, "WriteAddress", func() { impl.WriteAddress(list) })
	}
}
