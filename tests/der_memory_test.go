package tests

import (
	"bytes"
	"math"
	"slices"
	"testing"

	"loop.example/g00148/impl"
)

// guardedItems are items with spare room behind the list and behind each Body, and a picture of all.
type guardedItems struct {
	list    []impl.Item
	picture []impl.Item
	bodies  []guarded[byte]
}

func guardItems(list []impl.Item) guardedItems {
	g := guardedItems{}
	room := append(slices.Clone(list), slices.Repeat([]impl.Item{{Tag: 48, Kids: 2}}, 40)...)
	for i, item := range room {
		body := guard(item.Body, roomMark)
		room[i].Body = body.list
		g.bodies = append(g.bodies, body)
	}
	g.list, g.picture = room[:len(list)], copyItems(room)
	return g
}

func (g guardedItems) touched() bool {
	return !slices.EqualFunc(g.list[:cap(g.list)][:len(g.picture)], g.picture, sameItem) || anyTouched(g.bodies)
}

func copyItems(list []impl.Item) []impl.Item {
	copies := slices.Clone(list)
	for i := range copies {
		copies[i].Body = bytes.Clone(copies[i].Body)
	}
	return copies
}

// bodiesStandAlone writes over each Body and all its room in turn, then over the list, and looks that nothing else has changed.
func bodiesStandAlone(t *testing.T, what string, list []impl.Item, touched func() bool) {
	t.Helper()
	want := copyItems(list)
	for i, item := range list {
		spoil(item.Body, spoilMark)
		for j := i + 1; j < len(list); j++ {
			if !sameItem(list[j], want[j]) {
				t.Fatalf("%s: Body %d and Body %d share memory", what, i, j)
			}
		}
	}
	spoil(list, impl.Item{Tag: spoilMark})
	if touched() {
		t.Errorf("%s shares memory with an argument", what)
	}
}

// treeLists are right and wrong ones.
func treeLists() [][]impl.Item {
	lists := [][]impl.Item{}
	for i, n := range trees() {
		if i%5 == 0 || len(n.kids) > 1 {
			lists = append(lists, n.items())
		}
	}
	for _, list := range wrongTrees() {
		lists = append(lists, list)
	}
	return lists
}

func TestTreesStandAlone(t *testing.T) {
	for _, list := range treeLists() {
		g := guardItems(list)
		if impl.TreeOk(g.list) != impl.TreeOk(list) {
			t.Errorf("TreeOk reads spare room")
		}
		want, wantOk := impl.WriteDer(list)
		got, ok := impl.WriteDer(g.list)
		if !bytes.Equal(got, want) || ok != wantOk {
			t.Errorf("WriteDer reads spare room")
		}
		spoil(got, spoilMark)
		again, _ := impl.WriteDer(g.list)
		sameHex(t, "WriteDer a second time", again, want)
		if g.touched() {
			t.Errorf("TreeOk or WriteDer wrote into an argument: %v", list)
		}
	}
}

func TestPartsStandAlone(t *testing.T) {
	for _, list := range treeLists() {
		g := guardItems(list)
		for at := -1; at <= min(len(list), 20); at++ {
			want, _ := impl.Children(list, at)
			got, _ := impl.Children(g.list, at)
			sameList(t, "Children with spare room", got, want)
			spoil(got, spoilMark)
			again, _ := impl.Children(g.list, at)
			sameList(t, "Children a second time", again, want)
			wantPart, _ := impl.Part(list, at)
			part, _ := impl.Part(g.list, at)
			sameItems(t, "Part with spare room", part, wantPart)
			if g.touched() {
				t.Errorf("Children or Part wrote into an argument: %v", list)
			}
			bodiesStandAlone(t, "Part", part, g.touched)
			part, _ = impl.Part(g.list, at)
			sameItems(t, "Part a second time", part, wantPart)
		}
	}
}

// One Body for all items is one for each of them in what is answered.
func TestPartsOfOneBody(t *testing.T) {
	body := bytes.Repeat([]byte{6}, 40)
	list := []impl.Item{{Tag: 48, Kids: 4}, {Tag: 4, Body: body}, {Tag: 4, Body: body}, {Tag: 4, Body: body[:20]}, {Tag: 4, Body: body[20:]}}
	want := copyItems(list)
	part, _ := impl.Part(list, 0)
	sameItems(t, "Part of one Body", part, want)
	bodiesStandAlone(t, "Part of one Body", part, func() bool { return !slices.EqualFunc(list, want, sameItem) })
}

func TestReadTreesStandAlone(t *testing.T) {
	texts := [][]byte{nil, {31}, {5, 128}, {5, 0, 0}, {48, 2, 5}, make([]byte, impl.MaxDer+1)}
	for i, n := range trees() {
		if i%3 == 0 || len(n.kids) > 1 {
			texts = append(texts, n.text(), n.text()[:len(n.text())-1])
		}
	}
	for _, text := range texts {
		want, wantCode, wantPlace := impl.ReadDer(slices.Clip(slices.Clone(text)))
		for _, mark := range []byte{0, 5, 128} {
			g := guard(text, mark)
			got, code, place := impl.ReadDer(g.list)
			sameItems(t, "ReadDer with spare room", got, want)
			if code != wantCode || place != wantPlace {
				t.Errorf("ReadDer reads spare room: %d at %d, %d at %d", code, place, wantCode, wantPlace)
			}
			if g.touched() {
				t.Errorf("ReadDer wrote into %x", text)
			}
			bodiesStandAlone(t, "ReadDer", got, g.touched)
			got, _, _ = impl.ReadDer(g.list)
			sameItems(t, "ReadDer a second time", got, want)
		}
	}
}

// turnsAlone is as standsAlone, where lists of one kind are turned into another one.
func turnsAlone[A listed, B listed](t *testing.T, what string, list []A, call func(list []A) ([]B, bool)) {
	t.Helper()
	g := guard(list, 0)
	want, _ := call(slices.Clip(slices.Clone(list)))
	got, _ := call(g.list)
	sameList(t, what+" with spare room", got, want)
	spoil(got, spoilMark)
	again, _ := call(g.list)
	sameList(t, what+" a second time", again, want)
	if g.touched() {
		t.Errorf("%s wrote into %v", what, list)
	}
}

func TestNumbersAndIdentifiersStandAlone(t *testing.T) {
	readInt := func(args [][]byte) [][]byte { n, _ := impl.ReadIntBytes(args[0]); return [][]byte{impl.IntBytes(n)} }
	for _, text := range [][]byte{nil, {}, {0}, {1}, {255}, {0, 128}, {0, 0}, bytes.Repeat([]byte{1}, 8), bytes.Repeat([]byte{1}, 9), {42}, {42, 134, 72}, {42, 134}} {
		standsAlone(t, "ReadIntBytes", [][]byte{text}, readInt)
		turnsAlone(t, "ReadOid", text, impl.ReadOid)
	}
	for _, oid := range append(oids(), wrongOids()...) {
		turnsAlone(t, "OidBytes", oid, impl.OidBytes)
	}
	for _, n := range []int{0, 1, -1, 128, math.MaxInt, math.MinInt} {
		answersStandAlone(t, "IntBytes", func() ([]byte, bool) { return impl.IntBytes(n), true })
	}
}

func TestEncodingsEndSoon(t *testing.T) {
	most := knot(48, append(leaves(impl.MaxItems-2), leafOf(3000))...)
	deep := wrapped(knot(48, leaves(impl.MaxItems-impl.MaxDeep-1)...), impl.MaxDeep-1)
	for _, n := range []node{most, deep} {
		list, text := n.items(), n.text()
		endsSoon(t, "TreeOk", func() { saysTree(t, "the most", list, true) })
		endsSoon(t, "WriteDer", func() { written(t, "the most", list, text) })
		endsSoon(t, "ReadDer", func() { readWell(t, "the most", text, list) })
		endsSoon(t, "Children", func() { impl.Children(list, 0) })
		endsSoon(t, "Part", func() { impl.Part(list, 0) })
	}
	endsSoon(t, "ReadDer of as many items as can be", func() { readFaulty(t, "many", knot(48, leaves(1998)...).text(), impl.DerMany, 0) })
	long := make([]byte, 1<<24)
	endsSoon(t, "ReadDer of many bytes", func() { readFaulty(t, "long", long, impl.DerLong, 0) })
	endsSoon(t, "ReadIntBytes of many bytes", func() { impl.ReadIntBytes(long) })
	for _, b := range []byte{0, 1, 128, 129, 255} {
		many := bytes.Repeat([]byte{b}, 1<<24)
		endsSoon(t, "ReadOid of many bytes", func() { refusesOid(t, "many bytes", many) })
	}
	items := slices.Repeat([]impl.Item{{Tag: 48, Kids: 1}}, 1<<20)
	endsSoon(t, "TreeOk of many items", func() { saysTree(t, "many", items, false) })
	huge := slices.Repeat([]impl.Item{{Tag: 48, Kids: math.MaxInt}}, impl.MaxItems)
	endsSoon(t, "TreeOk of huge Kids", func() { saysTree(t, "huge", huge, false) })
	endsSoon(t, "OidBytes of many numbers", func() { impl.OidBytes(many(1, 1<<20)) })
}
