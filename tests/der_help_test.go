package tests

import (
	"bytes"
	"slices"
	"testing"

	"loop.example/g00148/impl"
)

// node is a tree reckoned apart from the program: it holds the ones that it is made of.
type node struct {
	tag  int
	body []byte
	kids []node
}

func leaf(tag int, body ...byte) node {
	return node{tag: tag, body: body}
}

func leafOf(size int) node {
	return leaf(4, bytes.Repeat([]byte{7}, size)...)
}

func knot(tag int, kids ...node) node {
	return node{tag: tag, kids: kids}
}

func leaves(many int) []node {
	return slices.Repeat([]node{leaf(5)}, many)
}

// wrapped has so many items around n.
func wrapped(n node, times int) node {
	for range times {
		n = knot(48, n)
	}
	return n
}

func (n node) items() []impl.Item {
	list := []impl.Item{{Tag: n.tag, Body: n.body, Kids: len(n.kids)}}
	for _, kid := range n.kids {
		list = append(list, kid.items()...)
	}
	return list
}

func (n node) text() []byte {
	content := n.body
	for _, kid := range n.kids {
		content = slices.Concat(content, kid.text())
	}
	return slices.Concat([]byte{byte(n.tag)}, lengthText(len(content)), content)
}

func lengthText(n int) []byte {
	switch {
	case n < 128:
		return []byte{byte(n)}
	case n < 256:
		return []byte{129, byte(n)}
	}
	return []byte{130, byte(n / 256), byte(n % 256)}
}

// rightTags are all that an item may have.
func rightTags() []int {
	tags := []int{}
	for tag := range 256 {
		if tag%32 != 31 {
			tags = append(tags, tag)
		}
	}
	return tags
}

// tree looks as if by chance, and has at most so many around an item.
func (s *turn) tree(deep int) node {
	tags := rightTags()
	tag := tags[s.below(len(tags))]
	if tag/32%2 == 0 {
		return leaf(tag, s.someBytes([]int{0, 0, 1, 2, 5, 127, 128}[s.below(7)])...)
	}
	n := knot(tag)
	if deep > 0 {
		for range s.below(5) {
			n.kids = append(n.kids, s.tree(deep-1))
		}
	}
	return n
}

// lengthEdges are where a length takes a byte more, and just beside.
func lengthEdges() []int {
	return []int{0, 1, 2, 3, 123, 124, 125, 126, 127, 128, 129, 130, 131, 132, 250, 251, 252, 253, 254, 255, 256, 257, 258, 259, 260, 511, 512, 1000, 3980}
}

// trees are of many shapes, each of at most MaxDer bytes.
func trees() []node {
	list := []node{
		knot(48), knot(32), knot(254), leaf(0), leaf(0, 0), leaf(222, 255),
		knot(48, leaves(1)...), knot(48, leaves(2)...), knot(48, leaves(impl.MaxItems-1)...),
		knot(49, knot(48), knot(48), knot(48)), knot(48, knot(48, leaf(5)), leaf(5)), knot(48, leaf(5), knot(48, leaf(5))),
		leafOf(impl.MaxDer - 4), wrapped(leafOf(impl.MaxDer-4-4*impl.MaxDeep), impl.MaxDeep),
		knot(48, wrapped(leaf(5), impl.MaxDeep-1), wrapped(leaf(6, 1), impl.MaxDeep-1), wrapped(knot(48), impl.MaxDeep-1)),
	}
	for _, tag := range rightTags() {
		n := node{tag: tag}
		list = append(list, n, knot(48, n, n), wrapped(n, 3))
	}
	for deep := range impl.MaxDeep + 1 {
		list = append(list, wrapped(leaf(5), deep), wrapped(knot(48), deep), wrapped(leafOf(200), deep), wrapped(knot(48, leaves(3)...), min(deep, impl.MaxDeep-1)))
	}
	for _, size := range lengthEdges() {
		n := leafOf(size)
		list = append(list, n, knot(48, n), knot(48, n, leaf(5)), knot(48, leaf(5), n), knot(48, knot(160, n)))
	}
	s := turn(200)
	for range 300 {
		list = append(list, s.tree(1+s.below(impl.MaxDeep)))
	}
	return slices.DeleteFunc(list, func(n node) bool {
		return len(n.text()) > impl.MaxDer || len(n.items()) > impl.MaxItems
	})
}

func sameItem(a impl.Item, b impl.Item) bool {
	return a.Tag == b.Tag && a.Kids == b.Kids && bytes.Equal(a.Body, b.Body)
}

func sameItems(t *testing.T, what string, got []impl.Item, want []impl.Item) {
	t.Helper()
	if !slices.EqualFunc(got, want, sameItem) {
		t.Errorf("%s: got %v, want %v", what, got, want)
	}
}

// written wants just these bytes.
func written(t *testing.T, what string, list []impl.Item, want []byte) {
	t.Helper()
	got, ok := impl.WriteDer(list)
	if !ok || !bytes.Equal(got, want) {
		t.Errorf("WriteDer of %s: got %x %v, want %x true", what, got, ok, want)
	}
}

// readWell wants just these items.
func readWell(t *testing.T, what string, b []byte, want []impl.Item) {
	t.Helper()
	got, code, place := impl.ReadDer(b)
	if code != impl.DerWell || place != 0 {
		t.Errorf("ReadDer of %s: code %d at %d", what, code, place)
	}
	sameItems(t, "ReadDer of "+what, got, want)
}

// readFaulty wants nothing but a code and its place.
func readFaulty(t *testing.T, what string, b []byte, code int, place int) {
	t.Helper()
	list, gotCode, gotPlace := impl.ReadDer(b)
	if len(list) != 0 || gotCode != code || gotPlace != place {
		t.Errorf("ReadDer of %s: got %v, code %d at %d, want nothing, code %d at %d", what, list, gotCode, gotPlace, code, place)
	}
}

func saysTree(t *testing.T, what string, list []impl.Item, want bool) {
	t.Helper()
	if got := impl.TreeOk(list); got != want {
		t.Errorf("TreeOk of %s: got %v, want %v", what, got, want)
	}
}
