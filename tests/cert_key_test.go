package tests

import (
	"fmt"
	"math"
	"reflect"
	"slices"
	"testing"

	"loop.example/g00148/impl"
)

func tellsKey(t *testing.T, k impl.Key, want []impl.Item) {
	t.Helper()
	got, ok := impl.KeyTree(k)
	if !ok {
		t.Errorf("KeyTree(%+v): false", k)
	}
	sameItems(t, fmt.Sprintf("KeyTree(%+v)", k), got, want)
}

func readsKey(t *testing.T, what string, list []impl.Item, want impl.Key) {
	t.Helper()
	if got, ok := impl.ReadKeyTree(list); !ok || !impl.SameKey(got, want) {
		t.Errorf("%s: ReadKeyTree(%v): got %+v %v, want %+v", what, list, got, ok, want)
	}
}

func refusesKey(t *testing.T, what string, list []impl.Item) {
	t.Helper()
	got, ok := impl.ReadKeyTree(list)
	if len(got.N) == 0 {
		got.N = nil
	}
	if ok || !reflect.DeepEqual(got, impl.Key{}) {
		t.Errorf("%s: ReadKeyTree(%v): got %+v %v, want nothing and false", what, list, got, ok)
	}
}

// fewKeys are of each kind, some with numbers that need a byte 0 ahead.
func fewKeys() []impl.Key {
	s := turn(321)
	list := keyOfEach()
	list = append(list, rsaKey(oddOf(129)[0], 65537), rsaKey(oddOf(135)[1], 129), rsaKey(oddOf(136)[0], 255))
	for _, k := range append(smallCurves()[:4], greatCurves()...) {
		list = append(list, s.curveSecretOf(k).key())
	}
	for _, k := range append(smallEds()[:4], greatEds()...) {
		list = append(list, impl.Key{Kind: impl.KeyEd, Ed: k, A: s.anyPair(k)})
	}
	return list
}

func TestKeysComeBack(t *testing.T) {
	list := someKeys()
	if len(list) < 800 {
		t.Fatalf("no more than %d keys", len(list))
	}
	for _, k := range list {
		items := keyNode(k).items()
		tellsKey(t, k, items)
		readsKey(t, "what KeyTree tells", items, k)
	}
}

func TestNoTwoKeysHaveOneTree(t *testing.T) {
	keys := map[string]impl.Key{}
	for _, k := range someKeys() {
		tree, _ := impl.KeyTree(k)
		text := fmt.Sprint(tree)
		if other, there := keys[text]; there && !impl.SameKey(k, other) {
			t.Errorf("%+v and %+v have one tree", k, other)
		}
		keys[text] = k
	}
}

func TestKeyTreeByHand(t *testing.T) {
	leaves := func(bodies ...[]byte) []impl.Item {
		list := []impl.Item{{Tag: 48, Kids: len(bodies)}}
		for _, body := range bodies {
			list = append(list, impl.Item{Tag: 2, Body: body})
		}
		return list
	}
	n := append(many(0, 7), 32768)
	n[0] = 1
	tellsKey(t, rsaKey(n, 3), leaves([]byte{1}, []byte{0, 128, 0, 0, 0, 0, 0, 0, 0, 0, 0, 0, 0, 0, 0, 0, 1}, []byte{3}))
	n = append(n, 1)
	tellsKey(t, rsaKey(n, 65537), leaves([]byte{1}, []byte{1, 128, 0, 0, 0, 0, 0, 0, 0, 0, 0, 0, 0, 0, 0, 0, 1}, []byte{1, 0, 1}))
	curve := impl.Key{Kind: impl.KeyCurve, Curve: impl.Curve{P: 103, A: 2, B: 11, N: 97, GX: 1, GY: 23}, Q: impl.Point{X: 1, Y: 23}}
	want := leaves([]byte{2}, []byte{103}, []byte{2}, []byte{11}, []byte{97}, []byte{1}, []byte{23}, []byte{0, 4, 0, 0, 1, 0, 0, 23})
	want[8].Tag = 3
	tellsKey(t, curve, want)
	ed := impl.Key{Kind: impl.KeyEd, Ed: impl.Ed{P: 101, D: 12, L: 11, BX: 76, BY: 22}, A: impl.Pair{X: 25, Y: 22}}
	want = leaves([]byte{3}, []byte{101}, []byte{12}, []byte{11}, []byte{76}, []byte{22}, []byte{0, 22, 0, 128})
	want[7].Tag = 3
	tellsKey(t, ed, want)
}

func TestKeyTreeOfWrongKeys(t *testing.T) {
	refuses := func(what string, k impl.Key) {
		t.Helper()
		list, ok := impl.KeyTree(k)
		refused(t, what+": KeyTree", list, ok)
	}
	for _, key := range keyOfEach() {
		for what, wrong := range spoiltKeys(key) {
			refuses(what, wrong)
		}
		for _, kind := range farNumbers() {
			key.Kind = kind
			refuses("kind", key)
		}
	}
	for _, n := range append(wrongNaturals(), many(65535, 7), many(65535, 33), nil) {
		refuses("N", rsaKey(n, 3))
	}
	for what, list := range wrongCurves() {
		for _, k := range list {
			refuses(what, impl.Key{Kind: impl.KeyCurve, Curve: k, Q: impl.Point{X: k.GX, Y: k.GY}})
		}
	}
	for what, list := range wrongEds() {
		for _, k := range list {
			refuses(what, impl.Key{Kind: impl.KeyEd, Ed: k, A: impl.Pair{X: k.BX, Y: k.BY}})
		}
	}
	refuses("the far point", impl.Key{Kind: impl.KeyCurve, Curve: topCurve, Q: far})
	refuses("nothing", impl.Key{})
}

// A number of kind, which is the first item, that is another one.
func TestReadKeyTreeOfAnotherKind(t *testing.T) {
	for _, k := range fewKeys() {
		for _, kind := range append(farNumbers(), 0, 1, 2, 3, 4, 5, 127, 128, 257, 258, 259) {
			if kind != k.Kind {
				items := keyNode(k).items()
				items[1].Body = intText(kind)
				refusesKey(t, "another kind", items)
			}
		}
	}
}

func TestReadKeyTreeOfAnItemMoreOrFewer(t *testing.T) {
	for _, k := range fewKeys() {
		kids := keyNode(k).kids
		for i := range kids {
			refusesKey(t, "an item fewer", knot(48, slices.Delete(slices.Clone(kids), i, i+1)...).items())
			refusesKey(t, "so many items", knot(48, kids[:i]...).items())
		}
		for i := range len(kids) + 1 {
			for _, more := range []node{leaf(2, 0), leaf(2, 1), leaf(5), leaf(3, 0), knot(48), kids[0], kids[len(kids)-1]} {
				refusesKey(t, "an item more", knot(48, slices.Insert(slices.Clone(kids), i, more)...).items())
			}
		}
		refusesKey(t, "in another one", knot(48, keyNode(k)).items())
		refusesKey(t, "with a part of its own", knot(48, append([]node{knot(48, kids[0])}, kids[1:]...)...).items())
	}
}

func TestReadKeyTreeOfLongerNumbers(t *testing.T) {
	for _, k := range fewKeys() {
		items := keyNode(k).items()
		for i := 1; i < len(items); i++ {
			was := items[i].Body
			for _, ahead := range [][]byte{{0}, {0, 0}, {255}, make([]byte, 8), make([]byte, 64), make([]byte, 200)} {
				items[i].Body = append(slices.Clone(ahead), was...)
				refusesKey(t, "a byte too many ahead", items)
				items[i].Body = append(slices.Clone(was), ahead...)
				if _, right := strictly(nodeOf(items).key); !right {
					refusesKey(t, "a byte too many behind", items)
				}
			}
			items[i].Body = nil
			refusesKey(t, "no bytes", items)
			items[i].Body = was
		}
		readsKey(t, "as it was", items, k)
	}
}

func TestReadKeyTreeOfOtherTags(t *testing.T) {
	for _, k := range fewKeys() {
		items := keyNode(k).items()
		for i := range items {
			was := items[i].Tag
			for _, tag := range append(rightTags(), -1, 31, 63, 256, 258, 304, math.MinInt, math.MaxInt) {
				if tag != was {
					items[i].Tag = tag
					refusesKey(t, fmt.Sprintf("Tag %d at %d", tag, i), items)
				}
			}
			items[i].Tag = was
		}
		readsKey(t, "as it was", items, k)
	}
}

func TestReadKeyTreeOfOtherBits(t *testing.T) {
	for _, k := range fewKeys() {
		items := keyNode(k).items()
		last := len(items) - 1
		if items[last].Tag != 3 {
			continue
		}
		was := items[last].Body
		for first := 1; first < 256; first++ {
			items[last].Body = append([]byte{byte(first)}, was[1:]...)
			refusesKey(t, "another first byte", items)
		}
		for size := range was {
			items[last].Body = was[:size]
			refusesKey(t, "fewer bytes", items)
			items[last].Body = was[size+1:]
			refusesKey(t, "fewer bytes ahead", items)
		}
		others := [][]byte{{0, 0}, {0, 4}, make([]byte, 3), make([]byte, 8), append(slices.Clone(was), 0)}
		if k.Kind == impl.KeyCurve {
			others = append(others, append([]byte{0}, plainBytes(k.Q, true)...), make([]byte, 4))
		}
		for _, other := range others {
			items[last].Body = other
			refusesKey(t, "other bytes", items)
		}
		items[last].Body = was
		readsKey(t, "as it was", items, k)
	}
}

// All that is one step away is held against the strict reader.
func TestReadKeyTreeOneStepAway(t *testing.T) {
	seen := tally{}
	for _, k := range fewKeys() {
		for _, other := range keyNode(k).variants() {
			want, right := strictly(other.key)
			if right {
				readsKey(t, "one step away", other.items(), want)
				tellsKey(t, want, other.items())
			} else {
				refusesKey(t, "one step away", other.items())
			}
			seen.count(right)
		}
	}
	seen.enough(t, 300)
}

func TestReadKeyTreeOfNoTree(t *testing.T) {
	for what, list := range wrongTrees() {
		refusesKey(t, what, list)
	}
	for _, n := range trees() {
		refusesKey(t, "another tree", n.items())
	}
	for _, k := range fewKeys() {
		items := keyNode(k).items()
		refusesKey(t, "an item behind", append(slices.Clone(items), impl.Item{Tag: 5}))
		refusesKey(t, "without the last", items[:len(items)-1])
		for _, kids := range append(farNumbers(), 0, 1, len(items)-2, len(items)) {
			items[0].Kids = kids
			refusesKey(t, "other Kids", items)
		}
		items[0].Kids = len(items) - 1
		for i := 1; i < len(items); i++ {
			items[i].Kids = 1
			refusesKey(t, "Kids without the bit", items)
			items[i].Kids = 0
		}
		items[0].Body = []byte{1}
		refusesKey(t, "a Body at the top", items)
		items[0].Body = []byte{}
		readsKey(t, "an empty Body at the top", items, k)
	}
	long := keyNode(keyOfEach()[0])
	long.kids = append(long.kids, leafOf(impl.MaxDer))
	refusesKey(t, "more than MaxDer bytes", long.items())
}
