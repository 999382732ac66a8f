package tests

import (
	"math/big"
	"slices"

	"loop.example/g00148/impl"
)

// nodeOf is the tree of items that are one.
func nodeOf(list []impl.Item) node {
	n, _ := nodeAt(list)
	return n
}

func nodeAt(list []impl.Item) (node, []impl.Item) {
	n, rest := node{tag: list[0].Tag, body: list[0].Body}, list[1:]
	for range list[0].Kids {
		var kid node
		kid, rest = nodeAt(rest)
		n.kids = append(n.kids, kid)
	}
	return n, rest
}

// noForm is what the strict reader panics with.
type noForm struct{}

func must(is bool) {
	if !is {
		panic(noForm{})
	}
}

// strictly reads what must be there, item by item: it writes nothing again.
func strictly[V any](read func() V) (value V, ok bool) {
	defer func() {
		if found := recover(); found != nil && found != (noForm{}) {
			panic(found)
		}
	}()
	return read(), true
}

func (n node) bytes(tag int) []byte {
	must(n.tag == tag)
	return n.body
}

func (n node) madeOf(tag int, least int, most int) []node {
	must(n.tag == tag && within(len(n.kids), least, most))
	return n.kids
}

// shortest tells whether no byte ahead is needless.
func shortest(b []byte) bool {
	return len(b) == 1 || len(b) > 1 && (b[0] != 0 || b[1] > 127) && (b[0] != 255 || b[1] < 128)
}

func (n node) number() int {
	b := n.bytes(2)
	must(shortest(b) && len(b) <= 8)
	number := new(big.Int).SetBytes(b)
	if b[0] > 127 {
		number.Sub(number, new(big.Int).Lsh(big.NewInt(1), uint(8*len(b))))
	}
	return int(number.Int64())
}

func (n node) numbers() []int {
	list := []int{}
	for _, kid := range n.kids {
		list = append(list, kid.number())
	}
	return list
}

func (n node) texts(tag int) []string {
	list := []string{}
	for _, kid := range n.kids {
		list = append(list, string(kid.bytes(tag)))
	}
	return list
}

// bits are those of an item of Tag 3 in which all count.
func (n node) bits() []byte {
	b := n.bytes(3)
	must(len(b) > 0 && b[0] == 0)
	return b[1:]
}

func (n node) time() int {
	size, tag := 13, 23
	if n.tag == 24 {
		size, tag = 15, 24
	}
	text := string(n.bytes(tag))
	t, ok := timeRead(text)
	must(ok && len(text) == size && (tag == 24) == (t > timeShortMost))
	return t
}

func (n node) key() impl.Key {
	kids := n.madeOf(48, 1, 8)
	key := impl.Key{Kind: kids[0].number()}
	switch {
	case key.Kind == impl.KeyRsa && len(kids) == 3:
		b := kids[1].bytes(2)
		must(shortest(b) && b[0] < 128)
		key.N, key.E = digitsOf(new(big.Int).SetBytes(b)), kids[2].number()
	case key.Kind == impl.KeyCurve && len(kids) == 8:
		k := node{kids: kids[:7]}.numbers()
		key.Curve = impl.Curve{P: k[1], A: k[2], B: k[3], N: k[4], GX: k[5], GY: k[6]}
		b := kids[7].bits()
		must(len(b) == 7 && b[0] == 4)
		key.Q = impl.Point{X: readThree(b[1:]), Y: readThree(b[4:])}
	case key.Kind == impl.KeyEd && len(kids) == 7:
		k := node{kids: kids[:6]}.numbers()
		key.Ed = impl.Ed{P: k[1], D: k[2], L: k[3], BX: k[4], BY: k[5]}
		a, ok := impl.EdRead(key.Ed, kids[6].bits())
		must(ok)
		key.A = a
	default:
		must(false)
	}
	must(impl.KeyOk(key))
	return key
}

// exts are what stands in an item of Tag 163: at least one of five, in their order.
func (n node) exts() impl.Exts {
	x := impl.Exts{Path: -1}
	last := 0
	for _, kid := range n.madeOf(163, 1, 1)[0].madeOf(48, 1, 5) {
		pair := kid.madeOf(48, 2, 2)
		number := pair[0].number()
		must(number > last && number <= 5)
		last = number
		pair[1].ext(number, &x)
	}
	return x
}

func (n node) ext(number int, x *impl.Exts) {
	switch number {
	case 1:
		kids := n.madeOf(48, 1, 2)
		must(string(kids[0].bytes(1)) == "\xff")
		x.Ca = true
		if len(kids) == 2 {
			x.Path = kids[1].number()
			must(x.Path >= 0)
		}
	case 2:
		b := n.bytes(3)
		must(len(b) == 2 && b[0] == 5 && b[1]%32 == 0 && b[1] > 0)
		x.Usage = int(b[1] >> 5)
	case 3:
		kids := n.madeOf(48, 1, 2*impl.MaxHosts)
		hosts := slices.IndexFunc(kids, func(kid node) bool { return kid.tag != 130 })
		if hosts < 0 {
			hosts = len(kids)
		}
		x.Hosts = node{kids: kids[:hosts]}.texts(130)
		for _, kid := range kids[hosts:] {
			b := kid.bytes(135)
			must(len(b) == 4)
			x.Nets = append(x.Nets, []int{int(b[0]), int(b[1]), int(b[2]), int(b[3])})
		}
	case 4:
		kids := n.madeOf(48, 1, 2)
		if kids[0].tag == 160 {
			x.Allow = node{kids: kids[0].madeOf(160, 1, impl.MaxHosts)}.texts(130)
			kids = kids[1:]
		}
		if len(kids) > 0 {
			must(len(kids) == 1)
			x.Deny = node{kids: kids[0].madeOf(161, 1, impl.MaxHosts)}.texts(130)
		}
	case 5:
		x.Purposes = node{kids: n.madeOf(48, 1, impl.MaxHosts)}.numbers()
	}
}

func (n node) cert() impl.Cert {
	whole := n.madeOf(48, 2, 2)
	kids := whole[0].madeOf(48, 6, 7)
	times := kids[3].madeOf(48, 2, 2)
	c := impl.Cert{
		Serial: kids[0].number(), Alg: kids[1].number(),
		Issuer:  node{kids: kids[2].madeOf(48, 1, textsMost)}.texts(12),
		Subject: node{kids: kids[4].madeOf(48, 1, textsMost)}.texts(12),
		From:    times[0].time(), To: times[1].time(), Key: kids[5].key(), Exts: impl.Exts{Path: -1}, Sig: whole[1].bits(),
	}
	if len(kids) == 7 {
		c.Exts = kids[6].exts()
	}
	must(len(certFaults(c)) == 0)
	return c
}

// variants are one step away from a tree: an item left out, twice there, in another order, with another Tag or Body, in another one, or with another one beside.
func (n node) variants() []node {
	list := []node{}
	kidsAs := func(kids ...node) { list = append(list, node{tag: n.tag, kids: kids}) }
	for i, kid := range n.kids {
		ahead, behind := n.kids[:i:i], n.kids[i+1:]
		kidsAs(slices.Concat(ahead, behind)...)
		kidsAs(slices.Concat(ahead, []node{kid, kid}, behind)...)
		if len(behind) > 0 {
			kidsAs(slices.Concat(ahead, []node{behind[0], kid}, behind[1:])...)
		}
		for _, more := range []node{leaf(5), leaf(2, 1), leaf(3, 0), leaf(12, 'a'), knot(48), leaf(130, 'a'), knot(163)} {
			kidsAs(slices.Concat(ahead, []node{more, kid}, behind)...)
			kidsAs(slices.Concat(ahead, []node{kid, more}, behind)...)
		}
		for _, other := range kid.variants() {
			kidsAs(slices.Concat(ahead, []node{other}, behind)...)
		}
	}
	list = append(list, knot(48, n), knot(163, n), node{tag: n.tag ^ 1, body: n.body, kids: n.kids}, node{tag: n.tag ^ 16, body: n.body, kids: n.kids}, node{tag: n.tag ^ 128, body: n.body, kids: n.kids}, leaf(4, n.text()...))
	if n.tag&32 == 0 {
		return append(list, n.bodyVariants()...)
	}
	return append(list, knot(n.tag), leaf(n.tag^32))
}

func (n node) bodyVariants() []node {
	list := []node{knot(n.tag^32, leaf(5)), knot(n.tag ^ 32), leaf(n.tag)}
	for _, b := range []byte{0, 1, 48, 127, 128, 255, 'a', '9'} {
		list = append(list, leaf(n.tag, append([]byte{b}, n.body...)...), leaf(n.tag, append(slices.Clone(n.body), b)...))
	}
	for i := range n.body {
		list = append(list, leaf(n.tag, slices.Delete(slices.Clone(n.body), i, i+1)...))
		for _, by := range []byte{1, 16, 32, 64, 128, 255} {
			other := slices.Clone(n.body)
			other[i] ^= by
			list = append(list, leaf(n.tag, other...))
		}
	}
	return list
}
