package tests

import (
	"fmt"
	"math"
	"regexp"
	"strconv"
	"strings"
	"testing"
	"time"

	"loop.example/g00148/impl"
)

const (
	yearLeast     = 1950
	yearMost      = 2099
	yearShortMost = 2049
	timeLeast     = -631152000
	timeMost      = 4102444799
	secondsOfDay  = 86400
	// The last second of 2049.
	timeShortMost = 2524607999
)

var timeForm = regexp.MustCompile(`^([0-9]{2}|[0-9]{4})([0-9]{2})([0-9]{2})([0-9]{2})([0-9]{2})([0-9]{2})Z$`)

// clockOf is a time by the library, which has the days of all years by a rule of its own.
func clockOf(t int) time.Time {
	return time.Unix(int64(t), 0).UTC()
}

// secondOf is the time of a day and so many seconds by the library; false where there is none within reach.
func secondOf(year int, month int, day int, hour int, minute int, second int) (int, bool) {
	c := time.Date(year, time.Month(month), day, hour, minute, second, 0, time.UTC)
	same := c.Year() == year && int(c.Month()) == month && c.Day() == day && c.Hour() == hour && c.Minute() == minute && c.Second() == second
	if !same || year < yearLeast || year > yearMost {
		return 0, false
	}
	return int(c.Unix()), true
}

// monthLast is the last day of a month: the one ahead of the next month's first.
func monthLast(year int, month int) int {
	return time.Date(year, time.Month(month+1), 0, 0, 0, 0, 0, time.UTC).Day()
}

// timeRead is what a text says, reckoned apart from the program.
func timeRead(s string) (int, bool) {
	found := timeForm.FindStringSubmatch(s)
	if found == nil {
		return 0, false
	}
	parts := []int{}
	for _, text := range found[1:] {
		part, _ := strconv.Atoi(text)
		parts = append(parts, part)
	}
	if len(found[1]) == 2 {
		parts[0] += 1900
		if parts[0] < yearLeast {
			parts[0] += 100
		}
	}
	return secondOf(parts[0], parts[1], parts[2], parts[3], parts[4], parts[5])
}

// longText and shortText are written by the library.
func longText(t int) string {
	return clockOf(t).Format("20060102150405") + "Z"
}

func shortText(t int) string {
	return clockOf(t).Format("060102150405") + "Z"
}

// tells wants just this time, or the fixed answer.
func tells(t *testing.T, what string, got int, ok bool, want int, right bool) {
	t.Helper()
	if got != want || ok != right {
		t.Errorf("%s: got %d %v, want %d %v", what, got, ok, want, right)
	}
}

func tellsTime(t *testing.T, year int, month int, day int, seconds int, want int, right bool) {
	t.Helper()
	got, ok := impl.TimeOf(year, month, day, seconds)
	tells(t, fmt.Sprintf("TimeOf(%d, %d, %d, %d)", year, month, day, seconds), got, ok, want, right)
}

func refusesDay(t *testing.T, year int, month int, day int, seconds int) {
	t.Helper()
	tellsTime(t, year, month, day, seconds, 0, false)
}

func tellsDay(t *testing.T, at int, year int, month int, day int, seconds int) {
	t.Helper()
	y, m, d, s := impl.DayOf(at)
	if y != year || m != month || d != day || s != seconds {
		t.Errorf("DayOf(%d): got %d %d %d %d, want %d %d %d %d", at, y, m, d, s, year, month, day, seconds)
	}
}

func tellsText(t *testing.T, what string, at int, tell func(int) (string, bool), want string) {
	t.Helper()
	got, ok := tell(at)
	if got != want || ok != (want != "") {
		t.Errorf("%s(%d): got %q %v, want %q", what, at, got, ok, want)
	}
}

func tellsShort(t *testing.T, at int, want string) {
	t.Helper()
	tellsText(t, "ShortTime", at, impl.ShortTime, want)
}

func tellsLong(t *testing.T, at int, want string) {
	t.Helper()
	tellsText(t, "LongTime", at, impl.LongTime, want)
}

func readsTime(t *testing.T, s string, want int, right bool) {
	t.Helper()
	got, ok := impl.ReadTime(s)
	tells(t, fmt.Sprintf("ReadTime(%q)", s), got, ok, want, right)
}

func refusesTime(t *testing.T, s string) {
	t.Helper()
	readsTime(t, s, 0, false)
}

// readsAsTold holds ReadTime against what is reckoned apart, and says whether there is a time.
func readsAsTold(t *testing.T, s string) bool {
	t.Helper()
	want, right := timeRead(s)
	readsTime(t, s, want, right)
	return right
}

// timeComesBack holds a time against its day and its texts, there and back.
func timeComesBack(t *testing.T, at int) {
	t.Helper()
	c := clockOf(at)
	seconds := c.Hour()*3600 + c.Minute()*60 + c.Second()
	tellsDay(t, at, c.Year(), int(c.Month()), c.Day(), seconds)
	tellsTime(t, c.Year(), int(c.Month()), c.Day(), seconds, at, true)
	tellsLong(t, at, longText(at))
	readsTime(t, longText(at), at, true)
	if c.Year() <= yearShortMost {
		tellsShort(t, at, shortText(at))
		readsTime(t, shortText(at), at, true)
	} else {
		tellsShort(t, at, "")
	}
}

// someTime is any time of that year.
func (s *turn) someTime(year int) int {
	first, _ := secondOf(year, 1, 1, 0, 0, 0)
	last, _ := secondOf(year, 12, 31, 23, 59, 59)
	return first + s.below(last-first+1)
}

// times are the edges of days, months, years and forms, and some of each year.
func times() []int {
	list := []int{timeLeast, timeLeast + 1, timeMost - 1, timeMost, -secondsOfDay - 1, -secondsOfDay, -secondsOfDay + 1, -1, 0, 1, secondsOfDay - 1, secondsOfDay, secondsOfDay + 1}
	s := turn(9)
	for year := yearLeast; year <= yearMost; year++ {
		for month := 1; month <= 12; month++ {
			first, _ := secondOf(year, month, 1, 0, 0, 0)
			last, _ := secondOf(year, month, monthLast(year, month), 23, 59, 59)
			list = append(list, first, last)
		}
		for range 20 {
			list = append(list, s.someTime(year))
		}
	}
	return list
}

// noTimes lie outside, by one and by as much as can be.
func noTimes() []int {
	return []int{
		timeLeast - 1, timeLeast - 2, timeLeast - secondsOfDay, timeMost + 1, timeMost + 2, timeMost + secondsOfDay,
		-1 << 31, 1 << 32, -1 << 32, -1 << 40, 1 << 40, 1 << 62, -1 << 62,
		math.MinInt, math.MinInt + 1, math.MinInt - timeLeast, math.MaxInt + timeLeast, math.MaxInt - 1, math.MaxInt,
	}
}

// replaced has another piece in place of the byte at at.
func replaced(s string, at int, piece string) string {
	return s[:at] + piece + s[at+1:]
}

// noDigits are bytes that stand in no time but as its end.
func noDigits() []string {
	list := []string{}
	for _, b := range allBytes() {
		if !strings.ContainsRune("0123456789", rune(b)) {
			list = append(list, string([]byte{b}))
		}
	}
	return list
}
