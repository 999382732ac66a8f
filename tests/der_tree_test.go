package tests

import (
	"bytes"
	"fmt"
	"math"
	"slices"
	"testing"

	"loop.example/g00148/impl"
)

func TestTreesComeBack(t *testing.T) {
	list := trees()
	if len(list) < 1000 {
		t.Fatalf("no more than %d trees", len(list))
	}
	for _, n := range list {
		items, text := n.items(), n.text()
		what := fmt.Sprintf("a tree of %d items and %d bytes", len(items), len(text))
		saysTree(t, what, items, true)
		written(t, what, items, text)
		readWell(t, what, text, items)
	}
}

// placeBehind goes down item by item: the place behind the tree at at, or -1 where there is none.
func placeBehind(list []impl.Item, at int, around int) int {
	if at >= len(list) || around > impl.MaxDeep || !rightItem(list[at]) {
		return -1
	}
	next := at + 1
	for range list[at].Kids {
		if next = placeBehind(list, next, around+1); next < 0 {
			return -1
		}
	}
	return next
}

func rightItem(item impl.Item) bool {
	if item.Tag < 0 || item.Tag > 255 || item.Tag%32 == 31 || item.Kids < 0 {
		return false
	}
	if item.Tag/32%2 == 1 {
		return len(item.Body) == 0
	}
	return item.Kids == 0
}

// eachList calls with every list of up to so many of these items.
func eachList(of []impl.Item, size int, call func(list []impl.Item)) {
	var grow func(list []impl.Item)
	grow = func(list []impl.Item) {
		call(list)
		if len(list) == size {
			return
		}
		for _, item := range of {
			grow(append(slices.Clone(list), item))
		}
	}
	grow(nil)
}

func TestEachSmallTree(t *testing.T) {
	right, wrong := 0, 0
	check := func(list []impl.Item) {
		want := len(list) > 0 && placeBehind(list, 0, 0) == len(list)
		if got := impl.TreeOk(list); got != want {
			t.Errorf("TreeOk(%v): got %v, want %v", list, got, want)
		}
		if _, ok := impl.WriteDer(list); ok != want {
			t.Errorf("WriteDer(%v): got %v, want %v", list, ok, want)
		}
		if want {
			right++
		} else {
			wrong++
		}
	}
	eachList([]impl.Item{{Tag: 4}, {Tag: 48}, {Tag: 48, Kids: 1}, {Tag: 48, Kids: 2}, {Tag: 48, Kids: 3}}, 6, check)
	eachList([]impl.Item{{Tag: 4}, {Tag: 4, Kids: 1}, {Tag: 48, Kids: 1}, {Tag: 48, Kids: 2}, {Tag: 48, Kids: -1}, {Tag: 48, Body: []byte{1}}, {Tag: 31}, {Tag: 256}}, 4, check)
	if right < 300 || wrong < 10000 {
		t.Errorf("only %d and %d", right, wrong)
	}
}

// wrongTrees are no trees, each for one reason.
func wrongTrees() map[string][]impl.Item {
	list := map[string][]impl.Item{
		"no items":                          nil,
		"an empty list":                     {},
		"an item too many":                  {{Tag: 4}, {Tag: 4}},
		"an item too many behind":           {{Tag: 48, Kids: 1}, {Tag: 4}, {Tag: 4}},
		"an item too few":                   {{Tag: 48, Kids: 2}, {Tag: 4}},
		"none of the items told":            {{Tag: 48, Kids: 1}},
		"an item too few below":             {{Tag: 48, Kids: 2}, {Tag: 4}, {Tag: 48, Kids: 1}},
		"two at the top, one of them short": {{Tag: 4}, {Tag: 48, Kids: 1}},
		"items of which none is told":       {{Tag: 48}, {Tag: 4}},
		"a Body beside the bit":             {{Tag: 48, Body: []byte{1}}},
		"a Body beside Kids":                {{Tag: 48, Body: []byte{0}, Kids: 1}, {Tag: 4}},
		"Kids without the bit":              {{Tag: 16, Kids: 1}, {Tag: 4}},
		"Kids below 0":                      {{Tag: 48, Kids: -1}},
		"Kids far below 0":                  {{Tag: 48, Kids: math.MinInt}},
		"Kids below 0 without the bit":      {{Tag: 4, Kids: -1}},
		"Kids below 0 that make up":         {{Tag: 48, Kids: 2}, {Tag: 48, Kids: -1}},
		"Kids far too many":                 {{Tag: 48, Kids: math.MaxInt}},
		"Kids that wrap round to one":       {{Tag: 48, Kids: math.MaxInt}, {Tag: 48, Kids: math.MaxInt}, {Tag: 48, Kids: 4}},
		"Kids that wrap round to none":      {{Tag: 48, Kids: math.MaxInt}, {Tag: 48, Kids: math.MaxInt}, {Tag: 48, Kids: 2}, {Tag: 48, Kids: 2}},
		"too many items":                    knot(48, leaves(impl.MaxItems)...).items(),
		"far too many items":                knot(48, leaves(10*impl.MaxItems)...).items(),
		"one too deep":                      wrapped(leaf(5), impl.MaxDeep+1).items(),
		"one made of none too deep":         wrapped(knot(48), impl.MaxDeep+1).items(),
		"one far too deep":                  wrapped(leaf(5), 299).items(),
		"the last of many too deep":         knot(48, leaf(5), wrapped(leaf(5), impl.MaxDeep)).items(),
		"the first of many too deep":        knot(48, wrapped(leaf(5), impl.MaxDeep), leaf(5)).items(),
	}
	for _, tag := range []int{-1, -2, -16, -256, -224, 256, 257, 288, 300, 1 << 32, math.MinInt, math.MaxInt - 1, 31, 63, 95, 127, 159, 191, 223, 255} {
		item := impl.Item{Tag: tag}
		list[fmt.Sprintf("Tag %d", tag)] = []impl.Item{item}
		list[fmt.Sprintf("Tag %d within", tag)] = []impl.Item{{Tag: 48, Kids: 2}, {Tag: 4}, item}
	}
	return list
}

func TestWrongTrees(t *testing.T) {
	for what, list := range wrongTrees() {
		saysTree(t, what, list, false)
		b, ok := impl.WriteDer(list)
		refused(t, "WriteDer of "+what, b, ok)
		for _, at := range []int{-1, 0, 1, len(list) - 1, len(list)} {
			places, ok := impl.Children(list, at)
			refused(t, "Children of "+what, places, ok)
			part, ok := impl.Part(list, at)
			refused(t, "Part of "+what, part, ok)
		}
	}
}

func TestTreeEdges(t *testing.T) {
	saysTree(t, "one item", leaf(0).items(), true)
	saysTree(t, "one item of none", []impl.Item{{Tag: 48, Body: []byte{}}}, true)
	saysTree(t, "MaxItems side by side", knot(48, leaves(impl.MaxItems-1)...).items(), true)
	saysTree(t, "MaxDeep around one", wrapped(leaf(5), impl.MaxDeep).items(), true)
	saysTree(t, "a Body longer than MaxDer", leafOf(impl.MaxDer+1).items(), true)
	for tag := -40; tag <= 300; tag++ {
		right := tag >= 0 && tag <= 255 && tag%32 != 31
		saysTree(t, fmt.Sprintf("Tag %d", tag), []impl.Item{{Tag: tag}}, right)
		made := right && tag/32%2 == 1
		saysTree(t, fmt.Sprintf("Tag %d with one", tag), []impl.Item{{Tag: tag, Kids: 1}, {Tag: 5}}, made)
		saysTree(t, fmt.Sprintf("Tag %d with a Body", tag), []impl.Item{{Tag: tag, Body: []byte{1}}}, right && !made)
	}
}

// What two deep ones beside each other have around them is not added up.
func TestDeepOnesBesideEachOther(t *testing.T) {
	deep := wrapped(leaf(5), impl.MaxDeep-1)
	n := knot(48, deep, deep, leaf(5), deep, knot(48), deep)
	saysTree(t, "deep ones", n.items(), true)
	written(t, "deep ones", n.items(), n.text())
	readWell(t, "deep ones", n.text(), n.items())
}

func TestWriteDerByHand(t *testing.T) {
	long := bytes.Repeat([]byte{9}, 300)
	written(t, "no bytes", leaf(5).items(), []byte{5, 0})
	written(t, "an item of none", knot(48).items(), []byte{48, 0})
	written(t, "127 bytes", leaf(4, long[:127]...).items(), append([]byte{4, 127}, long[:127]...))
	written(t, "128 bytes", leaf(4, long[:128]...).items(), append([]byte{4, 129, 128}, long[:128]...))
	written(t, "255 bytes", leaf(4, long[:255]...).items(), append([]byte{4, 129, 255}, long[:255]...))
	written(t, "256 bytes", leaf(4, long[:256]...).items(), append([]byte{4, 130, 1, 0}, long[:256]...))
	written(t, "256 bytes in one", knot(48, leaf(4, long[:256]...)).items(), append([]byte{48, 130, 1, 4, 4, 130, 1, 0}, long[:256]...))
	written(t, "one in each other", knot(48, knot(49, knot(160)), leaf(1, 255)).items(), []byte{48, 7, 49, 2, 160, 0, 1, 1, 255})
}

func TestWriteDerAtItsMost(t *testing.T) {
	fits := func(n node) {
		t.Helper()
		text := n.text()
		written(t, "just MaxDer bytes", n.items(), text)
		readWell(t, "just MaxDer bytes", text, n.items())
		if len(text) != impl.MaxDer {
			t.Errorf("not MaxDer bytes: %d", len(text))
		}
	}
	passes := func(n node) {
		t.Helper()
		saysTree(t, "too many bytes", n.items(), true)
		b, ok := impl.WriteDer(n.items())
		refused(t, "WriteDer of too many bytes", b, ok)
	}
	fits(leafOf(3996))
	passes(leafOf(3997))
	fits(knot(48, leafOf(3992)))
	passes(knot(48, leafOf(3993)))
	fits(knot(48, append(leaves(200), leafOf(3592))...))
	passes(knot(48, append(leaves(200), leafOf(3593))...))
	fits(wrapped(leafOf(3948), 12))
	passes(wrapped(leafOf(3949), 12))
	for _, size := range []int{3998, 4000, 4001, 8000, 65535, 65536, 65540, 1<<24 - 1, 1 << 24} {
		passes(leafOf(size))
		passes(knot(48, leaf(5), leafOf(size)))
	}
	passes(knot(48, slices.Repeat([]node{leafOf(100)}, 100)...))
	passes(knot(48, slices.Repeat([]node{leafOf(1 << 20)}, 299)...))
}
