package tests

import (
	"fmt"
	"slices"
	"testing"

	"loop.example/g00148/impl"
)

// listing is a list with these Serials.
func listing(serials ...int) impl.Crl {
	return withCrl(func(c *impl.Crl) { c.Serials = serials })
}

// mergedOf is reckoned apart from the program.
func mergedOf(a []int, b []int) []int {
	return slices.Compact(slices.Sorted(slices.Values(slices.Concat(a, b))))
}

// saysMerge wants the Serials of both, or nothing where they are too many.
func saysMerge(t *testing.T, what string, a []int, b []int) bool {
	t.Helper()
	want := mergedOf(a, b)
	if len(want) > voidMost {
		refusesMerge(t, what, listing(a...), listing(b...))
		return false
	}
	saysMerged(t, what, listing(a...), listing(b...), want)
	return true
}

func TestMergeByHand(t *testing.T) {
	saysMerged(t, "none in both", listing(), listing(), nil)
	saysMerged(t, "none in one", listing(), listing(1, serialMost), []int{1, serialMost})
	saysMerged(t, "one ahead", listing(1, 2), listing(3, 4), []int{1, 2, 3, 4})
	saysMerged(t, "in turns", listing(1, 3, 5), listing(2, 4, 6), []int{1, 2, 3, 4, 5, 6})
	saysMerged(t, "within", listing(1, 9), listing(3, 4), []int{1, 3, 4, 9})
	saysMerged(t, "the same", listing(1, 2, 3), listing(1, 2, 3), []int{1, 2, 3})
	saysMerged(t, "some of both", listing(1, 2, 3, 7), listing(2, 3, 4), []int{1, 2, 3, 4, 7})
	saysMerged(t, "the same at the end", listing(1, serialMost), listing(serialMost), []int{1, serialMost})
}

// sets are all rising lists of numbers from 1 on.
func sets(most int) [][]int {
	list := [][]int{}
	for set := range 1 << most {
		serials := []int{}
		for i := range most {
			if set>>i&1 == 1 {
				serials = append(serials, 1+i)
			}
		}
		list = append(list, serials)
	}
	return list
}

func TestMergeOfAllSmallSets(t *testing.T) {
	list := sets(6)
	for _, a := range list {
		for _, b := range list {
			saysMerge(t, "small sets", a, b)
		}
	}
}

func TestMergeAtMaxVoid(t *testing.T) {
	for a := range voidMost + 1 {
		for b := range voidMost + 1 {
			for shared := range min(a, b) + 1 {
				first, second := counted(1, a), counted(1+a-shared, b)
				right := saysMerge(t, fmt.Sprintf("%d and %d with %d of both", a, b, shared), first, second)
				if right != (a+b-shared <= voidMost) {
					t.Errorf("%d and %d with %d of both: the test has it otherwise", a, b, shared)
				}
			}
		}
	}
	evens, odds := []int{}, []int{}
	for i := range voidMost {
		evens, odds = append(evens, 2+2*i), append(odds, 1+2*i)
	}
	for size := range voidMost + 1 {
		saysMerge(t, "in turns", evens[:size], odds[:voidMost-size])
		saysMerge(t, "in turns, one more", evens[:size], odds[:min(voidMost, voidMost-size+1)])
		saysMerge(t, "in turns, all of one", evens, odds[:size])
	}
	saysMerged(t, "MaxVoid that are the same", listing(evens...), listing(evens...), evens)
	refusesMerge(t, "twice MaxVoid", listing(evens...), listing(odds...))
	refusesMerge(t, "MaxVoid and one", listing(evens...), listing(serialMost))
	refusesMerge(t, "one and MaxVoid", listing(1), listing(evens...))
}

func TestMergeByAndLarge(t *testing.T) {
	s := turn(661)
	seen := tally{}
	for range 4000 {
		a, b := s.someCrl(), s.someCrl()
		b.Issuer = a.Issuer
		want := mergedOf(a.Serials, b.Serials)
		if len(want) > voidMost {
			refusesMerge(t, "by chance", a, b)
		} else {
			saysMerged(t, "by chance", a, b, want)
		}
		seen.count(len(want) <= voidMost)
	}
	seen.enough(t, 300)
}

func TestMergeByNames(t *testing.T) {
	says := func(a []string, b []string, want bool) {
		t.Helper()
		first, second := listing(1, 3), listing(2, 3)
		first.Issuer, second.Issuer = a, b
		if want {
			saysMerged(t, fmt.Sprintf("%q and %q", a, b), first, second, []int{1, 2, 3})
		} else {
			refusesMerge(t, fmt.Sprintf("%q and %q", a, b), first, second)
		}
	}
	for _, pair := range [][2]string{{"a", "A"}, {"a b", " A  B "}, {" ", "   "}, {"x", "x"}} {
		says([]string{pair[0]}, []string{pair[1]}, true)
		says([]string{pair[0], "y"}, []string{pair[1], "Y "}, true)
	}
	for _, pair := range [][2]string{{"a", "b"}, {"a b", "ab"}, {"@", "`"}, {"a", "aa"}, {"a", " "}} {
		says([]string{pair[0]}, []string{pair[1]}, false)
		says([]string{"y", pair[0]}, []string{"y", pair[1]}, false)
	}
	says([]string{"a"}, []string{"a", "b"}, false)
	says([]string{"a", "b"}, []string{"b", "a"}, false)
	empty, other := listing(), listing()
	other.Issuer = []string{"other"}
	refusesMerge(t, "none of others", empty, other)
}

// Times, Alg and Sig need not be the same, nor is it asked who signed.
func TestMergeOfListsThatDiffer(t *testing.T) {
	b := impl.Crl{Issuer: plainCrl().Issuer, From: timeLeast, To: timeLeast, Alg: impl.AlgEd, Serials: []int{4}, Sig: make([]byte, sigMost)}
	saysMerged(t, "all else is other", plainCrl(), b, []int{3, 4, 300, serialMost})
}

func TestMergeOfWhatIsNotOk(t *testing.T) {
	for _, wrongs := range []map[string]func(c *impl.Crl){wrongCrls(), unsignableCrls()} {
		for what, change := range wrongs {
			wrong := withCrl(change)
			for _, other := range []impl.Crl{plainCrl(), listing(), listing(1), wrong, {}} {
				refusesMerge(t, what, wrong, other)
				if isName(wrong.Issuer) {
					other.Issuer = wrong.Issuer
					refusesMerge(t, what+", of one name", wrong, other)
				}
			}
		}
	}
}
