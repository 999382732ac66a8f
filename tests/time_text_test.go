package tests

import (
	"cmp"
	"fmt"
	"slices"
	"strings"
	"testing"

	"loop.example/g00148/impl"
)

func TestTimeTextsByHand(t *testing.T) {
	tellsShort(t, 0, "700101000000Z")
	tellsShort(t, -1, "691231235959Z")
	tellsShort(t, 951782400, "000229000000Z")
	tellsShort(t, 946684799, "991231235959Z")
	tellsShort(t, 946684800, "000101000000Z")
	tellsShort(t, 1234567890, "090213233130Z")
	tellsLong(t, 0, "19700101000000Z")
	tellsLong(t, -1, "19691231235959Z")
	tellsLong(t, 951782400, "20000229000000Z")
	tellsLong(t, 946684799, "19991231235959Z")
	tellsLong(t, 946684800, "20000101000000Z")
	tellsLong(t, 1234567890, "20090213233130Z")
}

func TestShortTimeEdges(t *testing.T) {
	tellsShort(t, timeLeast-1, "")
	tellsShort(t, timeLeast, "500101000000Z")
	tellsShort(t, timeLeast+1, "500101000001Z")
	tellsShort(t, timeShortMost-1, "491231235958Z")
	tellsShort(t, timeShortMost, "491231235959Z")
	tellsShort(t, timeShortMost+1, "")
	tellsShort(t, timeShortMost+2, "")
	tellsShort(t, timeMost, "")
	for _, at := range noTimes() {
		tellsShort(t, at, "")
	}
	s := turn(29)
	for year := yearShortMost + 1; year <= yearMost; year++ {
		for range 20 {
			tellsShort(t, s.someTime(year), "")
		}
	}
}

func TestLongTimeEdges(t *testing.T) {
	tellsLong(t, timeLeast-1, "")
	tellsLong(t, timeLeast, "19500101000000Z")
	tellsLong(t, timeLeast+1, "19500101000001Z")
	tellsLong(t, timeShortMost, "20491231235959Z")
	tellsLong(t, timeShortMost+1, "20500101000000Z")
	tellsLong(t, timeMost-1, "20991231235958Z")
	tellsLong(t, timeMost, "20991231235959Z")
	tellsLong(t, timeMost+1, "")
	for _, at := range noTimes() {
		tellsLong(t, at, "")
	}
}

func TestTimesComeBackFromTexts(t *testing.T) {
	s := turn(39)
	for year := yearLeast; year <= yearMost; year++ {
		for range 200 {
			at := s.someTime(year)
			long, ok := impl.LongTime(at)
			readsTime(t, long, at, true)
			short, told := impl.ShortTime(at)
			if told {
				readsTime(t, short, at, true)
			}
			if !ok || told != (year <= yearShortMost) {
				t.Errorf("texts of %d: %q %q", at, long, short)
			}
		}
	}
}

// inTheirOrder holds times against their texts, two by two.
func inTheirOrder(t *testing.T, a int, b int, tell func(int) (string, bool)) {
	t.Helper()
	first, _ := tell(a)
	second, _ := tell(b)
	if first == "" || second == "" || cmp.Compare(a, b) != strings.Compare(first, second) {
		t.Errorf("%d and %d are %q and %q", a, b, first, second)
	}
}

// nearTime is often on the edge of a second, a minute, an hour, a day or a year beside a.
func (s *turn) nearTime(a int) int {
	steps := []int{0, 1, -1, 60, -60, 3600, -3600, secondsOfDay, -secondsOfDay, 31 * secondsOfDay, -31 * secondsOfDay, 365 * secondsOfDay, -365 * secondsOfDay}
	return a + steps[s.below(len(steps))]
}

// eachPair calls for many pairs of times of the years from low to high.
func eachPair(low int, high int, call func(a int, b int)) {
	s := turn(49)
	first, _ := secondOf(low, 1, 1, 0, 0, 0)
	last, _ := secondOf(high, 12, 31, 23, 59, 59)
	for range 20000 {
		a := s.someTime(low + s.below(high-low+1))
		call(a, s.someTime(low+s.below(high-low+1)))
		call(a, min(max(s.nearTime(a), first), last))
	}
	call(first, last)
	call(last, first)
}

func TestLongTextsStandInOrder(t *testing.T) {
	eachPair(yearLeast, yearMost, func(a int, b int) { inTheirOrder(t, a, b, impl.LongTime) })
	list := times()
	slices.Sort(list)
	for i, at := range list[1:] {
		inTheirOrder(t, list[i], at, impl.LongTime)
	}
}

// Two digits begin anew with 2000: within each century the bytes of short texts stand in order.
func TestShortTextsStandInOrder(t *testing.T) {
	eachPair(yearLeast, 1999, func(a int, b int) { inTheirOrder(t, a, b, impl.ShortTime) })
	eachPair(2000, yearShortMost, func(a int, b int) { inTheirOrder(t, a, b, impl.ShortTime) })
}

// Over both centuries short texts stand in the order of what they are read as, years from 50 on ahead of those below.
func TestShortTextsOfBothCenturies(t *testing.T) {
	key := func(at int) (string, bool) {
		text, ok := impl.ShortTime(at)
		if text >= "50" {
			return "a" + text, ok
		}
		return "b" + text, ok
	}
	eachPair(yearLeast, yearShortMost, func(a int, b int) {
		inTheirOrder(t, a, b, key)
		first, _ := impl.ShortTime(a)
		second, _ := impl.ShortTime(b)
		x, _ := impl.ReadTime(first)
		y, _ := impl.ReadTime(second)
		if cmp.Compare(a, b) != cmp.Compare(x, y) {
			t.Errorf("%q and %q are read as %d and %d", first, second, x, y)
		}
	})
}

func TestReadTimeByHand(t *testing.T) {
	readsTime(t, "700101000000Z", 0, true)
	readsTime(t, "19700101000000Z", 0, true)
	readsTime(t, "691231235959Z", -1, true)
	readsTime(t, "19691231235959Z", -1, true)
	readsTime(t, "500101000000Z", timeLeast, true)
	readsTime(t, "491231235959Z", timeShortMost, true)
	readsTime(t, "20491231235959Z", timeShortMost, true)
	readsTime(t, "20991231235959Z", timeMost, true)
	readsTime(t, "000229000000Z", 951782400, true)
	refusesTime(t, "230229000000Z")
	refusesTime(t, "20230229000000Z")
	refusesTime(t, "21000228000000Z")
	refusesTime(t, "19491231235959Z")
}

func TestReadTimeSizes(t *testing.T) {
	refusesTime(t, "")
	for _, text := range []string{"000101000000Z", "20000101000000Z", "700101000000Z", "19700101000000Z", "20500101000000Z"} {
		right := len(text)
		for size := range right {
			refusesTime(t, text[:size])
			// A time's last 13 of 15 bytes are one too.
			readsAsTold(t, text[size:])
		}
		for _, more := range append(noDigits(), "0", "1", "00", "01", "000", "Z0", "ZZ", "+0000", "é") {
			for at := range right + 1 {
				readsAsTold(t, text[:at]+more+text[at:])
			}
			refusesTime(t, text+more)
		}
	}
	for size := range 40 {
		if size != 13 && size != 15 {
			refusesTime(t, strings.Repeat("0", size))
			refusesTime(t, strings.Repeat("1", max(size-1, 0))+"Z")
			refusesTime(t, ("2001010100000000000000000000000000000000")[:size])
			refusesTime(t, ("2001010100000000000000000000000000000000")[:max(size-1, 0)]+"Z")
		}
	}
	// 14 bytes: a short one with a digit more, a long one with a digit fewer or without its end.
	for _, text := range []string{"2000101000000Z", "0001010000000Z", "0000101000000Z", "20000101000000", "2000010100000Z", "000101000000ZZ", "000101000000Z\x00", "\x00000101000000Z"} {
		if len(text) != 14 {
			t.Fatalf("%q has %d bytes", text, len(text))
		}
		refusesTime(t, text)
	}
}

func TestReadTimeShortYears(t *testing.T) {
	for two := range 100 {
		year := 1900 + two
		if two < 50 {
			year = 2000 + two
		}
		first, _ := secondOf(year, 1, 1, 0, 0, 0)
		last, _ := secondOf(year, 12, 31, 23, 59, 59)
		readsTime(t, fmt.Sprintf("%02d0101000000Z", two), first, true)
		readsTime(t, fmt.Sprintf("%02d1231235959Z", two), last, true)
		if year%4 != 0 {
			refusesTime(t, fmt.Sprintf("%02d0229000000Z", two))
		} else {
			readsTime(t, fmt.Sprintf("%02d0229000000Z", two), first+59*secondsOfDay, true)
		}
	}
}

func TestReadTimeLongYears(t *testing.T) {
	for year := range 10000 {
		first, right := secondOf(year, 1, 1, 0, 0, 0)
		last, _ := secondOf(year, 12, 31, 23, 59, 59)
		readsTime(t, fmt.Sprintf("%04d0101000000Z", year), first, right)
		readsTime(t, fmt.Sprintf("%04d1231235959Z", year), last, right)
		if right != (year >= yearLeast && year <= yearMost) {
			t.Errorf("year %d", year)
		}
		readsAsTold(t, fmt.Sprintf("%04d0229000000Z", year))
	}
}

// TestReadTimeParts has all of 00 to 99 in place of each two digits.
func TestReadTimeParts(t *testing.T) {
	seen := tally{}
	for _, long := range []string{"20000229235959Z", "20010228000000Z", "19500101000000Z", "20491231235959Z", "20990430120030Z", "19521101010101Z", "20480630000000Z"} {
		for _, text := range []string{long, long[2:]} {
			for at := 0; at < len(text)-1; at += 2 {
				for two := range 100 {
					seen.count(readsAsTold(t, text[:at]+fmt.Sprintf("%02d", two)+text[at+2:]))
				}
			}
		}
	}
	seen.enough(t, 2000)
}

func TestReadTimePartsOneMore(t *testing.T) {
	for _, ahead := range []string{"", "19", "20"} {
		year := "96"
		if ahead == "20" {
			year = "48"
		}
		for _, wrong := range []string{"0001000000", "1301000000", "0100000000", "0132000000", "0230000000", "0431000000", "0631000000", "0931000000", "1131000000", "0101240000", "0101006000", "0101000060", "0101235960", "1231240000", "1231235960", "0101990000", "0101009900", "0101000099"} {
			refusesTime(t, ahead+year+wrong+"Z")
		}
		for _, right := range []string{"0101000000", "0131000000", "0229000000", "0430000000", "0630000000", "0930000000", "1130000000", "1231000000", "0101230000", "0101005900", "0101000059", "1231235959"} {
			if !readsAsTold(t, ahead+year+right+"Z") {
				t.Errorf("%q is no time", ahead+year+right+"Z")
			}
		}
	}
}

func TestReadTimeOtherEnds(t *testing.T) {
	for _, text := range []string{"000229235959", "20000229235959", "500101000000", "19500101000000"} {
		readsAsTold(t, text+"Z")
		for _, b := range allBytes() {
			if b != 'Z' {
				refusesTime(t, text+string([]byte{b}))
			}
		}
		for _, end := range []string{"z", "", "+00", "+0000", "-0000", "ZZ", " Z", "Z ", ".Z", ".0Z", "\x00Z", "Z\x00", "é", "Ｚ"} {
			refusesTime(t, text+end)
		}
	}
}

func TestReadTimeOtherBytes(t *testing.T) {
	for _, text := range []string{"000229235959Z", "20000229235959Z", "500101000000Z", "19500101000000Z", "111111111111Z", "20111111111111Z"} {
		for at := range len(text) - 1 {
			for _, odd := range noDigits() {
				refusesTime(t, replaced(text, at, odd))
			}
			// Two bytes at once keep the number of bytes where a rune has as many.
			for _, odd := range []string{"+1", "-1", "+0", "-0", " 1", "1 ", ".1", "1.", "_1", "1_", "0x", "é", "٠", "\x00\x00", "\xff\xff"} {
				if at+2 < len(text) {
					refusesTime(t, text[:at]+odd+text[at+2:])
				}
			}
		}
	}
}

// TestReadTimeEachYearText has signs and other bytes in all places of a year at once.
func TestReadTimeEachYearText(t *testing.T) {
	seen := tally{}
	for _, behind := range []string{"0101000000Z", "0229120000Z"} {
		eachText(allBytes(), 2, func(text []byte) { seen.count(readsAsTold(t, string(text)+behind)) })
		eachText([]byte("0129+-. /:\x00\xff"), 4, func(text []byte) { seen.count(readsAsTold(t, string(text)+behind)) })
	}
	seen.enough(t, 100)
}

// TestReadTimeByChance takes texts of digits that are near to times, and holds what is read against what is written.
func TestReadTimeByChance(t *testing.T) {
	s := turn(59)
	seen := tally{}
	for range 100000 {
		text := []byte(longText(s.someTime(yearLeast + s.below(150))))
		if s.below(2) == 0 {
			text = text[2:]
		}
		for range s.below(4) {
			text[s.below(len(text)-1)] = byte('0' + s.below(10))
		}
		right := readsAsTold(t, string(text))
		seen.count(right)
		if right {
			at, _ := impl.ReadTime(string(text))
			short, _ := impl.ShortTime(at)
			long, _ := impl.LongTime(at)
			if string(text) != short && string(text) != long {
				t.Errorf("%q is read as %d, which is written as %q and %q", text, at, short, long)
			}
		}
	}
	seen.enough(t, 20000)
}
