package tests

import (
	"fmt"
	"math"
	"testing"

	"loop.example/g00148/impl"
)

// eachNode calls with every node of a tree and the place where its items begin.
func (n node) eachNode(at int, call func(n node, at int)) {
	call(n, at)
	at++
	for _, kid := range n.kids {
		kid.eachNode(at, call)
		at += len(kid.items())
	}
}

func (n node) childPlaces(at int) []int {
	places := []int{}
	at++
	for _, kid := range n.kids {
		places = append(places, at)
		at += len(kid.items())
	}
	return places
}

func TestChildrenAndParts(t *testing.T) {
	for _, top := range trees() {
		list := top.items()
		top.eachNode(0, func(n node, at int) {
			what := fmt.Sprintf("%d of %d items", at, len(list))
			places, ok := impl.Children(list, at)
			if n.tag&32 == 0 {
				refused(t, "Children of "+what, places, ok)
			} else if sameList(t, "Children of "+what, places, n.childPlaces(at)); !ok {
				t.Errorf("Children of %s: false", what)
			}
			part, ok := impl.Part(list, at)
			sameItems(t, "Part of "+what, part, n.items())
			if !ok {
				t.Errorf("Part of %s: false", what)
			}
		})
	}
}

func TestPlacesOfNone(t *testing.T) {
	for _, top := range []node{leaf(5), knot(48), knot(48, leaf(5)), knot(48, leaves(impl.MaxItems-1)...), wrapped(leaf(5), impl.MaxDeep)} {
		list := top.items()
		for _, at := range []int{-1, -2, math.MinInt, len(list), len(list) + 1, math.MaxInt} {
			what := fmt.Sprintf("%d of %d items", at, len(list))
			places, ok := impl.Children(list, at)
			refused(t, "Children of "+what, places, ok)
			part, ok := impl.Part(list, at)
			refused(t, "Part of "+what, part, ok)
		}
		// Within spare room there is no item.
		roomy := append(top.items(), leaf(5).items()...)[:len(list)]
		part, ok := impl.Part(roomy, len(list))
		refused(t, "Part behind the length", part, ok)
	}
}

func TestChildrenByHand(t *testing.T) {
	list := knot(48, knot(49, leaf(1, 1), knot(49)), leaf(2, 2), knot(160, leaf(3, 3))).items()
	for at, want := range map[int][]int{0: {1, 4, 5}, 1: {2, 3}, 3: {}, 5: {6}} {
		places, ok := impl.Children(list, at)
		sameList(t, "Children", places, want)
		if !ok {
			t.Errorf("Children at %d: false", at)
		}
	}
	for _, at := range []int{2, 4, 6} {
		places, ok := impl.Children(list, at)
		refused(t, "Children of one that is not made of items", places, ok)
	}
}

// What a tree is written as is what its Parts are, behind the top one's own bytes.
func TestPartsAreWrittenAsTheyStand(t *testing.T) {
	for _, top := range trees() {
		list, text := top.items(), top.text()
		places, ok := impl.Children(list, 0)
		if !ok {
			continue
		}
		rest := text[len(text)-contentSize(top):]
		for _, at := range places {
			part, _ := impl.Part(list, at)
			b, ok := impl.WriteDer(part)
			if !ok || len(b) > len(rest) {
				t.Fatalf("a Part of %d items is not written", len(part))
			}
			sameHex(t, "a Part", b, rest[:len(b)])
			rest = rest[len(b):]
		}
		if len(rest) > 0 {
			t.Errorf("no Part tells of %x", rest)
		}
	}
}

func contentSize(n node) int {
	size := len(n.body)
	for _, kid := range n.kids {
		size += len(kid.text())
	}
	return size
}
