package tests

import (
	"math"
	"testing"
	"time"

	"loop.example/g00148/impl"
)

func TestTimeConstants(t *testing.T) {
	if impl.MinTime != timeLeast || impl.MaxTime != timeMost {
		t.Errorf("MinTime %d, MaxTime %d", impl.MinTime, impl.MaxTime)
	}
	first, _ := secondOf(yearLeast, 1, 1, 0, 0, 0)
	last, _ := secondOf(yearMost, 12, 31, 23, 59, 59)
	if impl.MinTime != first || impl.MaxTime != last {
		t.Errorf("the library has %d and %d", first, last)
	}
}

func TestEachDayComesBack(t *testing.T) {
	days := 0
	for c := time.Date(yearLeast, 1, 1, 0, 0, 0, 0, time.UTC); c.Year() <= yearMost; c = c.AddDate(0, 0, 1) {
		for _, seconds := range []int{0, secondsOfDay - 1} {
			want := int(c.Unix()) + seconds
			tellsTime(t, c.Year(), int(c.Month()), c.Day(), seconds, want, true)
			tellsDay(t, want, c.Year(), int(c.Month()), c.Day(), seconds)
		}
		days++
	}
	// 37 of the 150 years have a day more.
	if days != 150*365+37 {
		t.Errorf("%d days", days)
	}
}

func TestEachSecondOfADay(t *testing.T) {
	for _, first := range []int{timeLeast, -secondsOfDay, 0, 951782400, timeMost - secondsOfDay + 1} {
		year, month, day, _ := impl.DayOf(first)
		for seconds := range secondsOfDay {
			tellsTime(t, year, month, day, seconds, first+seconds, true)
			tellsDay(t, first+seconds, year, month, day, seconds)
		}
	}
}

func TestTimesComeBack(t *testing.T) {
	for _, at := range times() {
		timeComesBack(t, at)
	}
}

func TestTimesByHand(t *testing.T) {
	tellsTime(t, 1970, 1, 1, 0, 0, true)
	tellsTime(t, 1969, 12, 31, 86399, -1, true)
	tellsTime(t, 1950, 1, 1, 0, -631152000, true)
	tellsTime(t, 2099, 12, 31, 86399, 4102444799, true)
	tellsTime(t, 2000, 2, 29, 0, 951782400, true)
	tellsTime(t, 2000, 3, 1, 0, 951868800, true)
	tellsTime(t, 2001, 9, 9, 6400, 1000000000, true)
	tellsTime(t, 2038, 1, 19, 11647, 2147483647, true)
	tellsTime(t, 2050, 1, 1, 0, 2524608000, true)
	tellsDay(t, 0, 1970, 1, 1, 0)
	tellsDay(t, -1, 1969, 12, 31, 86399)
	tellsDay(t, -86400, 1969, 12, 31, 0)
	tellsDay(t, -86401, 1969, 12, 30, 86399)
	tellsDay(t, -631152000, 1950, 1, 1, 0)
	tellsDay(t, 4102444799, 2099, 12, 31, 86399)
	tellsDay(t, 951782399, 2000, 2, 28, 86399)
	tellsDay(t, 951868799, 2000, 2, 29, 86399)
	tellsDay(t, 951868800, 2000, 3, 1, 0)
	tellsDay(t, 1234567890, 2009, 2, 13, 84690)
}

func TestTimeOfYears(t *testing.T) {
	for _, seconds := range []int{0, 86399} {
		for _, year := range []int{1950, 2099} {
			for _, month := range []int{1, 2, 12} {
				if _, ok := impl.TimeOf(year, month, 28, seconds); !ok {
					t.Errorf("TimeOf(%d, %d, 28, %d) is refused", year, month, seconds)
				}
			}
		}
		for _, year := range []int{1949, 2100, 1948, 2104, 0, -1, 50, 99, -1950, -2000, 1 << 32, 1<<32 + 2000, 1<<62 + 2000, math.MinInt, math.MinInt + 2000, math.MaxInt} {
			for _, month := range []int{1, 2, 12} {
				refusesDay(t, year, month, 1, seconds)
				refusesDay(t, year, month, 28, seconds)
			}
		}
	}
}

func TestTimeOfMonths(t *testing.T) {
	for _, year := range []int{1950, 1952, 2000, 2023, 2099} {
		for _, month := range []int{1, 12} {
			if _, ok := impl.TimeOf(year, month, 31, 0); !ok {
				t.Errorf("TimeOf(%d, %d, 31, 0) is refused", year, month)
			}
		}
		for _, month := range []int{0, 13, -1, -12, 14, 24, 25, 100, 1 << 32, 1<<32 + 1, math.MinInt, math.MinInt + 1, math.MaxInt} {
			for _, day := range []int{0, 1, 28, 31} {
				refusesDay(t, year, month, day, 0)
			}
		}
	}
}

func TestTimeOfDays(t *testing.T) {
	lasts := []int{31, 28, 31, 30, 31, 30, 31, 31, 30, 31, 30, 31}
	for year := yearLeast; year <= yearMost; year++ {
		for month := 1; month <= 12; month++ {
			last := lasts[month-1]
			if month == 2 && year%4 == 0 {
				last = 29
			}
			for day := -2; day <= 34; day++ {
				for _, seconds := range []int{0, 86399} {
					_, ok := impl.TimeOf(year, month, day, seconds)
					if want := day >= 1 && day <= last; ok != want {
						t.Errorf("TimeOf(%d, %d, %d, %d): %v", year, month, day, seconds, ok)
					}
				}
			}
			refusesDay(t, year, month, 0, 0)
			refusesDay(t, year, month, last+1, 0)
			for _, day := range []int{-last, 100, 365, 1 << 32, 1<<32 + 1, math.MinInt, math.MinInt + 1, math.MaxInt} {
				refusesDay(t, year, month, day, 0)
			}
		}
	}
}

func TestTimeOfSeconds(t *testing.T) {
	for year := yearLeast; year <= yearMost; year++ {
		first, _ := secondOf(year, 7, 31, 0, 0, 0)
		tellsTime(t, year, 7, 31, 0, first, true)
		tellsTime(t, year, 7, 31, 86399, first+86399, true)
		for _, seconds := range []int{-1, 86400, -86399, -86400, 86401, 172800, 1 << 32, 1 << 62, math.MinInt, math.MinInt + 1, math.MaxInt} {
			refusesDay(t, year, 7, 31, seconds)
		}
	}
	refusesDay(t, 1950, 1, 1, -1)
	refusesDay(t, 2099, 12, 31, 86400)
}

// TestTimeOfSeveralReasons has several arguments that are not right at once.
func TestTimeOfSeveralReasons(t *testing.T) {
	wrong := []int{math.MinInt, math.MinInt + 1, -1 << 62, -1, 0, 100000, 1 << 62, math.MaxInt}
	for _, a := range wrong {
		for _, b := range wrong {
			for _, c := range wrong {
				for _, d := range wrong {
					refusesDay(t, a, b, c, d)
				}
			}
		}
	}
}

// TestTimeOfEachNear goes through all combinations beside the edges, held against the library.
func TestTimeOfEachNear(t *testing.T) {
	seen := tally{}
	for _, year := range []int{1899, 1900, 1949, 1950, 1951, 1952, 1999, 2000, 2001, 2004, 2096, 2098, 2099, 2100, 2101} {
		for month := -1; month <= 14; month++ {
			for day := -1; day <= 33; day++ {
				for _, seconds := range []int{-1, 0, 1, 3600, 43199, 86398, 86399, 86400} {
					want, right := 0, false
					if seconds >= 0 && seconds < secondsOfDay {
						want, right = secondOf(year, month, day, seconds/3600, seconds/60%60, seconds%60)
					}
					tellsTime(t, year, month, day, seconds, want, right)
					seen.count(right)
				}
			}
		}
	}
	seen.enough(t, 20000)
}

func TestDayOfNoTime(t *testing.T) {
	for _, at := range noTimes() {
		tellsDay(t, at, 0, 0, 0, 0)
	}
	tellsDay(t, impl.MinTime, 1950, 1, 1, 0)
	tellsDay(t, impl.MaxTime, 2099, 12, 31, 86399)
}

func TestDayOfMonthEnds(t *testing.T) {
	for year := yearLeast; year <= yearMost; year++ {
		for month := 1; month <= 12; month++ {
			first, _ := secondOf(year, month, 1, 0, 0, 0)
			last := monthLast(year, month)
			end := first + last*secondsOfDay
			tellsDay(t, first, year, month, 1, 0)
			tellsDay(t, end-secondsOfDay-1, year, month, last-1, 86399)
			tellsDay(t, end-secondsOfDay, year, month, last, 0)
			tellsDay(t, end-1, year, month, last, 86399)
			if month < 12 {
				tellsDay(t, end, year, month+1, 1, 0)
			} else if year < yearMost {
				tellsDay(t, end, year+1, 1, 1, 0)
			} else {
				tellsDay(t, end, 0, 0, 0, 0)
			}
		}
	}
}

// TestDaysStandInOrder: of two times the later one has no earlier day.
func TestDaysStandInOrder(t *testing.T) {
	s := turn(19)
	rank := func(at int) int {
		year, month, day, seconds := impl.DayOf(at)
		return ((year*100+month)*100+day)*100000 + seconds
	}
	for range 20000 {
		a, b := s.someTime(yearLeast+s.below(150)), s.someTime(yearLeast+s.below(150))
		if a < b != (rank(a) < rank(b)) {
			t.Errorf("DayOf(%d) and DayOf(%d)", a, b)
		}
	}
}
