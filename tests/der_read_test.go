package tests

import (
	"bytes"
	"fmt"
	"slices"
	"testing"

	"loop.example/g00148/impl"
)

// finding is the first fault of bytes, or their items where there is none.
type finding struct {
	code, place int
	items       []impl.Item
}

// findingOf is reckoned apart from the program, by going down item by item.
func findingOf(b []byte) finding {
	if len(b) > impl.MaxDer {
		return finding{code: impl.DerLong}
	}
	f := finding{}
	behind := f.item(b, 0, len(b), 0)
	switch {
	case f.code != impl.DerWell:
		return finding{code: f.code, place: f.place}
	case len(f.items) > impl.MaxItems:
		return finding{code: impl.DerMany}
	case behind < len(b):
		return finding{code: impl.DerMore, place: behind}
	}
	return f
}

func (f *finding) fault(code int, place int) {
	f.code, f.place = code, place
}

// item reads the one at at, which must end by end, and answers the place behind it.
func (f *finding) item(b []byte, at int, end int, around int) int {
	switch {
	case at == end:
		f.fault(impl.DerShort, at)
	case b[at]%32 == 31:
		f.fault(impl.DerTag, at)
	case around > impl.MaxDeep:
		f.fault(impl.DerDeep, at)
	case at+1 == end:
		f.fault(impl.DerShort, at)
	case b[at+1] == 128 || b[at+1] > 130:
		f.fault(impl.DerLength, at+1)
	case b[at+1] > 128 && at+2+int(b[at+1])-128 > end:
		f.fault(impl.DerShort, at)
	}
	if f.code != impl.DerWell {
		return end
	}
	length, start := int(b[at+1]), at+2
	switch b[at+1] {
	case 129:
		length, start = int(b[at+2]), at+3
	case 130:
		length, start = 256*int(b[at+2])+int(b[at+3]), at+4
	}
	switch {
	case start-at-1 > len(lengthText(length)):
		f.fault(impl.DerLength, at+1)
	case start+length > end:
		f.fault(impl.DerShort, at)
	case b[at]&32 == 0:
		f.items = append(f.items, impl.Item{Tag: int(b[at]), Body: b[start : start+length]})
	default:
		f.made(b, at, start, start+length, around)
	}
	return start + length
}

func (f *finding) made(b []byte, at int, start int, end int, around int) {
	place := len(f.items)
	f.items = append(f.items, impl.Item{Tag: int(b[at])})
	for start < end && f.code == impl.DerWell {
		f.items[place].Kids++
		start = f.item(b, start, end, around+1)
	}
}

// readsAs holds the program against findingOf, and what is read against what is written of it.
func readsAs(t *testing.T, b []byte) int {
	t.Helper()
	want := findingOf(b)
	what := fmt.Sprintf("%x", b[:min(len(b), 60)])
	if want.code != impl.DerWell {
		readFaulty(t, what, b, want.code, want.place)
		return want.code
	}
	readWell(t, what, b, want.items)
	saysTree(t, what, want.items, true)
	written(t, what, want.items, b)
	return want.code
}

// eachText calls with every text of so many of these bytes.
func eachText(of []byte, size int, call func(text []byte)) {
	text := make([]byte, size)
	var fill func(at int)
	fill = func(at int) {
		if at == size {
			call(text)
			return
		}
		for _, b := range of {
			text[at] = b
			fill(at + 1)
		}
	}
	fill(0)
}

func allBytes() []byte {
	list := make([]byte, 256)
	for i := range list {
		list[i] = byte(i)
	}
	return list
}

func TestReadEachShortText(t *testing.T) {
	codes := map[int]int{}
	check := func(text []byte) { codes[readsAs(t, text)]++ }
	for size := range 3 {
		eachText(allBytes(), size, check)
	}
	eachText([]byte{0, 1, 2, 3, 4, 5, 31, 48, 63, 127, 128, 129, 130, 131, 255}, 3, check)
	eachText([]byte{0, 1, 2, 3, 4, 31, 48, 128, 129, 130, 131}, 4, check)
	eachText([]byte{0, 1, 2, 3, 4, 31, 48, 128, 129}, 5, check)
	eachText([]byte{0, 1, 2, 4, 48}, 6, check)
	eachText([]byte{0, 2, 4, 48}, 8, check)
	for _, code := range []int{impl.DerWell, impl.DerShort, impl.DerTag, impl.DerLength, impl.DerMore} {
		if codes[code] < 100 {
			t.Errorf("code %d only %d times", code, codes[code])
		}
	}
}

// otherTexts are one change away from a text.
func otherTexts(text []byte, at int) [][]byte {
	list := [][]byte{text[:at], slices.Delete(slices.Clone(text), at, at+1)}
	for _, b := range []byte{0, 1, 31, 32, 48, 127, 128, 129, 130, 131, 255, text[at] + 1, text[at] - 1, text[at] ^ 32} {
		other := slices.Clone(text)
		other[at] = b
		list = append(list, other, slices.Insert(slices.Clone(text), at, b))
	}
	return list
}

func TestReadOneChangeAway(t *testing.T) {
	codes := map[int]int{}
	for _, n := range trees() {
		text := n.text()
		if len(text) > 500 {
			continue
		}
		for at := range text {
			// Within a long Body one place is as good as another.
			if at > 40 && at%17 != 0 {
				continue
			}
			for _, other := range otherTexts(text, at) {
				codes[readsAs(t, other)]++
			}
		}
	}
	for _, code := range []int{impl.DerWell, impl.DerShort, impl.DerTag, impl.DerLength, impl.DerMore, impl.DerDeep} {
		if codes[code] < 5 {
			t.Errorf("code %d only %d times", code, codes[code])
		}
	}
}

func TestReadDerByHand(t *testing.T) {
	cases := []struct {
		b           []byte
		code, place int
	}{
		{nil, impl.DerShort, 0}, {[]byte{}, impl.DerShort, 0}, {[]byte{5}, impl.DerShort, 0}, {[]byte{5, 1}, impl.DerShort, 0}, {[]byte{48, 2, 5}, impl.DerShort, 0},
		{[]byte{31}, impl.DerTag, 0}, {[]byte{31, 0}, impl.DerTag, 0}, {[]byte{63, 0}, impl.DerTag, 0}, {[]byte{255, 128}, impl.DerTag, 0}, {[]byte{48, 2, 31, 0}, impl.DerTag, 2},
		{[]byte{5, 128}, impl.DerLength, 1}, {[]byte{5, 131}, impl.DerLength, 1}, {[]byte{5, 255}, impl.DerLength, 1}, {[]byte{5, 131, 1, 0, 0}, impl.DerLength, 1}, {[]byte{48, 128, 0, 0}, impl.DerLength, 1},
		{[]byte{5, 129}, impl.DerShort, 0}, {[]byte{5, 130}, impl.DerShort, 0}, {[]byte{5, 130, 0}, impl.DerShort, 0}, {[]byte{5, 130, 1}, impl.DerShort, 0},
		{[]byte{5, 129, 0}, impl.DerLength, 1}, {[]byte{5, 129, 127}, impl.DerLength, 1}, {[]byte{5, 129, 1, 7}, impl.DerLength, 1}, {[]byte{5, 129, 128}, impl.DerShort, 0},
		{[]byte{5, 130, 0, 0}, impl.DerLength, 1}, {[]byte{5, 130, 0, 128}, impl.DerLength, 1}, {[]byte{5, 130, 0, 255}, impl.DerLength, 1}, {[]byte{5, 130, 1, 0}, impl.DerShort, 0}, {[]byte{5, 130, 255, 255}, impl.DerShort, 0},
		// What it belongs to ends ahead of it, though there are bytes behind.
		{[]byte{48, 1, 5, 0}, impl.DerShort, 2}, {[]byte{48, 2, 5, 1, 7}, impl.DerShort, 2}, {[]byte{48, 2, 4, 129, 128, 7}, impl.DerShort, 2}, {[]byte{48, 3, 4, 130, 1, 0, 7}, impl.DerShort, 2},
		{[]byte{48, 4, 48, 1, 5, 0}, impl.DerShort, 4}, {[]byte{48, 4, 48, 3, 5, 0, 5, 0}, impl.DerShort, 2}, {[]byte{48, 2, 4, 131, 7}, impl.DerLength, 3}, {[]byte{48, 2, 4, 128}, impl.DerLength, 3},
		// The first one from the left is told, and the one around it ahead of it.
		{[]byte{48, 9, 31}, impl.DerShort, 0}, {[]byte{48, 4, 31, 0, 5, 128}, impl.DerTag, 2}, {[]byte{48, 4, 5, 128, 31, 0}, impl.DerLength, 3}, {[]byte{48, 4, 5, 0, 31, 128}, impl.DerTag, 4}, {[]byte{48, 4, 49, 9, 31, 0}, impl.DerShort, 2},
		{[]byte{5, 0, 0}, impl.DerMore, 2}, {[]byte{5, 0, 5, 0}, impl.DerMore, 2}, {[]byte{5, 0, 31}, impl.DerMore, 2}, {[]byte{48, 0, 48}, impl.DerMore, 2}, {[]byte{48, 2, 5, 0, 5, 0}, impl.DerMore, 4}, {[]byte{48, 2, 5, 128, 0}, impl.DerLength, 3},
	}
	for _, c := range cases {
		readFaulty(t, fmt.Sprintf("%v", c.b), c.b, c.code, c.place)
	}
}

// Each first byte of a length, with just as many bytes behind it as it says, one fewer and one more.
func TestReadLengths(t *testing.T) {
	for length := range 600 {
		head := append([]byte{4}, lengthText(length)...)
		text := append(slices.Clone(head), bytes.Repeat([]byte{5}, length)...)
		readWell(t, "a length", text, []impl.Item{{Tag: 4, Body: text[len(head):]}})
		readFaulty(t, "a byte more", append(slices.Clone(text), 5), impl.DerMore, len(text))
		if length > 0 {
			readFaulty(t, "a byte fewer", text[:len(text)-1], impl.DerShort, 0)
		}
		wide := [][]byte{{4, 130, byte(length / 256), byte(length)}}
		if length < 256 {
			wide = append(wide, []byte{4, 129, byte(length)})
		}
		for _, other := range wide {
			if !bytes.Equal(other, head) {
				readFaulty(t, "a length that could be shorter", append(other, text[len(head):]...), impl.DerLength, 1)
				readFaulty(t, "a length that could be shorter, and nothing behind", other, impl.DerLength, 1)
			}
		}
	}
	for first := 131; first < 256; first++ {
		long := append([]byte{4, byte(first)}, bytes.Repeat([]byte{0}, 130)...)
		readFaulty(t, "a length of too many bytes", long, impl.DerLength, 1)
	}
}

func TestReadDerAtItsMost(t *testing.T) {
	whole := leafOf(impl.MaxDer - 4).text()
	readWell(t, "MaxDer bytes", whole, leafOf(impl.MaxDer-4).items())
	readFaulty(t, "one byte too many", append(slices.Clone(whole), 0), impl.DerLong, 0)
	readFaulty(t, "an item that is too long", leafOf(impl.MaxDer-3).text(), impl.DerLong, 0)
	readFaulty(t, "too many bytes of no item", bytes.Repeat([]byte{31}, impl.MaxDer+1), impl.DerLong, 0)
	readFaulty(t, "MaxDer bytes of no item", bytes.Repeat([]byte{31}, impl.MaxDer), impl.DerTag, 0)
	readFaulty(t, "MaxDer bytes, of which one follows", append(leafOf(impl.MaxDer-5).text(), 0), impl.DerMore, impl.MaxDer-1)
	readFaulty(t, "MaxDer bytes, where one more is told", append([]byte{4, 130, 15, 157}, bytes.Repeat([]byte{0}, 3996)...), impl.DerShort, 0)
}

func TestReadDeepOnes(t *testing.T) {
	deepest := 2 * (impl.MaxDeep + 1)
	for _, inner := range []node{leaf(5), leafOf(20), knot(48), knot(48, leaf(5), leaf(5))} {
		readFaulty(t, "one too deep", wrapped(inner, impl.MaxDeep+1).text(), impl.DerDeep, deepest)
		readFaulty(t, "one far too deep", wrapped(inner, impl.MaxDeep+9).text(), impl.DerDeep, deepest)
	}
	for deep := range impl.MaxDeep + 1 {
		readWell(t, "deep ones", wrapped(leaf(5), deep).text(), wrapped(leaf(5), deep).items())
	}
	// within is bytes in as many as can be, and one more.
	within := func(inner ...byte) []byte {
		for range impl.MaxDeep + 1 {
			inner = slices.Concat([]byte{48, byte(len(inner))}, inner)
		}
		return inner
	}
	readFaulty(t, "a wrong Tag too deep", within(31, 0), impl.DerTag, deepest)
	readFaulty(t, "no length too deep", within(5), impl.DerDeep, deepest)
	readFaulty(t, "a wrong length too deep", within(5, 128), impl.DerDeep, deepest)
	readFaulty(t, "a short one too deep", within(5, 1), impl.DerDeep, deepest)
	readFaulty(t, "one too deep, and something behind", append(within(5, 0), 0), impl.DerDeep, deepest)
	readWell(t, "none too deep", within(), wrapped(knot(48), impl.MaxDeep).items())
	// A fault further left is told ahead of it, one further right is not told.
	deep := wrapped(leaf(5), impl.MaxDeep).text()
	left := slices.Concat([]byte{48, byte(2 + len(deep)), 5, 128}, deep)
	readFaulty(t, "a fault left of one too deep", left, impl.DerLength, 3)
	right := slices.Concat([]byte{48, byte(2 + len(deep))}, deep, []byte{5, 128})
	readFaulty(t, "a fault right of one too deep", right, impl.DerDeep, deepest)
}

func TestReadManyItems(t *testing.T) {
	most, more := knot(48, leaves(impl.MaxItems-1)...), knot(48, leaves(impl.MaxItems)...)
	readWell(t, "MaxItems items", most.text(), most.items())
	readFaulty(t, "MaxItems and something behind", append(most.text(), 5), impl.DerMore, len(most.text()))
	readFaulty(t, "MaxItems + 1 items", more.text(), impl.DerMany, 0)
	readFaulty(t, "MaxItems + 1 items and something behind", append(more.text(), 5), impl.DerMany, 0)
	readFaulty(t, "as many as can be", knot(48, leaves(1998)...).text(), impl.DerMany, 0)
	readFaulty(t, "many that are no part of the top one", bytes.Repeat([]byte{5, 0}, 400), impl.DerMore, 2)
	nested := knot(48, slices.Repeat([]node{knot(48, leaf(5), leaf(5))}, 100)...)
	readFaulty(t, "too many in each other", nested.text(), impl.DerMany, 0)
	nested.kids[99].kids = leaves(1)
	readWell(t, "just as many in each other", nested.text(), nested.items())
	// Each item is asked, whatever their number.
	for many := impl.MaxItems - 3; many < impl.MaxItems+5; many++ {
		text := knot(48, leaves(many)...).text()
		at := len(text) - 2
		text[at] = 31
		readFaulty(t, "many, the last with a wrong Tag", text, impl.DerTag, at)
		text[at], text[at+1] = 5, 128
		readFaulty(t, "many, the last with a wrong length", text, impl.DerLength, at+1)
		text[at+1] = 1
		readFaulty(t, "many, the last too short", text, impl.DerShort, at)
	}
}
