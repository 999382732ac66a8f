package tests

import (
	"math"
	"math/big"
	"strings"
	"testing"

	"loop.example/g00148/impl"
)

func saysWithin(t *testing.T, at int, from int, to int, want bool) {
	t.Helper()
	if got := impl.Within(at, from, to); got != want {
		t.Errorf("Within(%d, %d, %d): got %v, want %v", at, from, to, got, want)
	}
}

func tellsSpan(t *testing.T, from int, to int, want int) {
	t.Helper()
	if got := impl.Span(from, to); got != want {
		t.Errorf("Span(%d, %d): got %d, want %d", from, to, got, want)
	}
}

// edgeTimes are times and no times, beside each other.
func edgeTimes() []int {
	return append(noTimes(), timeLeast, timeLeast+1, -secondsOfDay, -1, 0, 1, 5, secondsOfDay-1, secondsOfDay, secondsOfDay+1, timeShortMost, timeMost-1, timeMost)
}

func isOne(at int) bool {
	return at >= timeLeast && at <= timeMost
}

func TestWithinByHand(t *testing.T) {
	saysWithin(t, 5, 5, 5, true)
	saysWithin(t, 5, 4, 6, true)
	saysWithin(t, 5, 5, 6, true)
	saysWithin(t, 5, 4, 5, true)
	saysWithin(t, 4, 5, 6, false)
	saysWithin(t, 7, 5, 6, false)
	saysWithin(t, 5, 6, 4, false)
	saysWithin(t, 6, 6, 4, false)
	saysWithin(t, 4, 6, 4, false)
	saysWithin(t, 0, timeLeast, timeMost, true)
	saysWithin(t, timeLeast, timeLeast, timeMost, true)
	saysWithin(t, timeMost, timeLeast, timeMost, true)
	saysWithin(t, timeLeast, timeLeast, timeLeast, true)
	saysWithin(t, timeMost, timeMost, timeMost, true)
	saysWithin(t, 0, timeMost, timeLeast, false)
}

func TestWithinNoTimes(t *testing.T) {
	saysWithin(t, timeLeast-1, timeLeast, timeMost, false)
	saysWithin(t, timeMost+1, timeLeast, timeMost, false)
	saysWithin(t, 0, timeLeast-1, timeMost, false)
	saysWithin(t, 0, timeLeast, timeMost+1, false)
	saysWithin(t, timeLeast-1, timeLeast-1, timeMost, false)
	saysWithin(t, timeMost+1, timeLeast, timeMost+1, false)
	saysWithin(t, timeLeast-1, timeLeast-1, timeLeast-1, false)
	saysWithin(t, timeMost+1, timeMost+1, timeMost+1, false)
	saysWithin(t, 0, math.MinInt, math.MaxInt, false)
}

func TestWithinEachEdge(t *testing.T) {
	seen := tally{}
	for _, at := range edgeTimes() {
		for _, from := range edgeTimes() {
			for _, to := range edgeTimes() {
				want := isOne(at) && isOne(from) && isOne(to) && from <= at && at <= to
				saysWithin(t, at, from, to, want)
				seen.count(want)
			}
		}
	}
	seen.enough(t, 200)
}

func TestSpanByHand(t *testing.T) {
	for _, from := range []int{timeLeast, -86401, -86400, -1, 0, 1, 951782400, 1234567890, timeMost - 200000} {
		tellsSpan(t, from, from, 0)
		tellsSpan(t, from, from+1, 1)
		tellsSpan(t, from, from+86399, 1)
		tellsSpan(t, from, from+86400, 1)
		tellsSpan(t, from, from+86401, 2)
		tellsSpan(t, from, from+172800, 2)
		tellsSpan(t, from, from+172801, 3)
		tellsSpan(t, from+1, from, -1)
		tellsSpan(t, from+86400, from, -1)
	}
	tellsSpan(t, timeLeast, timeMost, 150*365+37)
	tellsSpan(t, timeLeast, timeMost-secondsOfDay+1, 150*365+36)
	tellsSpan(t, timeMost, timeLeast, -1)
	tellsSpan(t, timeMost, timeMost, 0)
	tellsSpan(t, timeLeast-1, timeLeast-1, -1)
	tellsSpan(t, timeMost+1, timeMost+1, -1)
	tellsSpan(t, timeLeast-1, timeMost, -1)
	tellsSpan(t, timeLeast, timeMost+1, -1)
	tellsSpan(t, math.MinInt, math.MaxInt, -1)
	tellsSpan(t, math.MaxInt, math.MinInt, -1)
}

// daysUp are reckoned apart: what is left over is one more day.
func daysUp(from int, to int) int {
	if !isOne(from) || !isOne(to) || to < from {
		return -1
	}
	whole, left := new(big.Int).QuoRem(big.NewInt(int64(to-from)), big.NewInt(secondsOfDay), new(big.Int))
	return int(whole.Int64()) + left.Sign()
}

func TestSpanEachEdge(t *testing.T) {
	seen := tally{}
	list := append(edgeTimes(), 951782400, 946684799, 946684800, 2524608000)
	s := turn(69)
	for range 200 {
		list = append(list, s.someTime(yearLeast+s.below(150)))
	}
	for _, from := range list {
		for _, to := range list {
			want := daysUp(from, to)
			tellsSpan(t, from, to, want)
			seen.count(want >= 0)
		}
	}
	seen.enough(t, 10000)
}

func TestTimesEndSoon(t *testing.T) {
	endsSoon(t, "the functions of numbers", func() {
		for _, at := range edgeTimes() {
			for range 1000 {
				impl.DayOf(at)
				impl.ShortTime(at)
				impl.LongTime(at)
				impl.TimeOf(at, at, at, at)
				impl.TimeOf(yearMost, 12, 31, at)
				impl.TimeOf(at, 12, 31, 86399)
				impl.Within(at, at, at)
				impl.Span(timeLeast, at)
			}
		}
	})
	for _, of := range []string{"0", "9", "Z", "000101000000Z", "20000101000000Z", "+", "\x00", "\x80", "\xff", "é", "日"} {
		long := strings.Repeat(of, 1<<22)
		for _, s := range []string{long, "000101000000Z" + long, long + "000101000000Z", "20000101000000" + long + "Z"} {
			endsSoon(t, "ReadTime", func() {
				if at, ok := impl.ReadTime(s); at != 0 || ok {
					t.Errorf("many %q are read as %d", of, at)
				}
			})
		}
	}
}
