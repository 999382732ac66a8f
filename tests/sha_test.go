package tests

import (
	"bytes"
	"fmt"
	"sync"
	"testing"

	"loop.example/g00148/impl"
)

const twoBlocks = "abcdbcdecdefdefgefghfghighijhijkijkljklmklmnlmnomnopnopq"

func TestShaPublished(t *testing.T) {
	long := "abcdefghbcdefghicdefghijdefghijkefghijklfghijklmghijklmnhijklmnoijklmnopjklmnopqklmnopqrlmnopqrsmnopqrstnopqrstu"
	published := []struct {
		data []byte
		want string
	}{
		{nil, "e3b0c44298fc1c149afbf4c8996fb92427ae41e4649b934ca495991b7852b855"},
		{[]byte{}, "e3b0c44298fc1c149afbf4c8996fb92427ae41e4649b934ca495991b7852b855"},
		{[]byte("abc"), "ba7816bf8f01cfea414140de5dae2223b00361a396177a9cb410ff61f20015ad"},
		{[]byte(twoBlocks), "248d6a61d20638b8e5c026930c3e6039a33ce45964ff2167f6ecedd419db06c1"},
		{[]byte(long), "cf5b16a778af8380036ce59e7b0492370b249b11e8f07a51afac45037afee9d1"},
		{[]byte{0xbd}, "68325720aabd7c82f30f554b313d0570c95accbb7dc4b5aae11204c08ffe732b"},
		{[]byte{0xc9, 0x8c, 0x8e, 0x55}, "7abc22c0ae5af26ce93dbb94433a0e0b2e119d014f8e7f65bd56c61ccccd9504"},
		{make([]byte, 55), "02779466cdec163811d078815c633f21901413081449002f24aa3e80f0b88ef7"},
		{make([]byte, 56), "d4817aa5497628e7c77e6b606107042bbba3130888c5f47a375e6179be789fbb"},
		{make([]byte, 57), "65a16cb7861335d5ace3c60718b5052e44660726da4cd13bb745381b235a1785"},
		{make([]byte, 64), "f5a5fd42d16a20302798ef6ed309979b43003d2320d9f0e8ea9831a92759fb4b"},
		{make([]byte, 1000), "541b3e9daa09b20bf85fa273e5cbd3e80185aa4ec298e765db87742b70138a53"},
		{bytes.Repeat([]byte("A"), 1000), "c2e686823489ced2017f6059b8b239318b6364f6dcd835d0a519105a1eadd6e4"},
		{bytes.Repeat([]byte("U"), 1005), "f4d62ddec0f3dd90ea1380fa16a5ff8dc4c54b21740650f24afc4120903552b0"},
	}
	for _, p := range published {
		sameHex(t, fmt.Sprintf("Sha of %d bytes", len(p.data)), impl.Sha(p.data), fromHex(t, p.want))
	}
}

// shaSizes are all sizes about the first blocks, and the edges.
func shaSizes() []int {
	sizes := hashEdges()
	for n := range 5*block + 2 {
		sizes = append(sizes, n)
	}
	for n := impl.MaxHash - block - 2; n <= impl.MaxHash; n++ {
		sizes = append(sizes, n)
	}
	return sizes
}

func TestShaOfAllSizes(t *testing.T) {
	s := turn(52)
	for _, n := range shaSizes() {
		for _, data := range [][]byte{make([]byte, n), bytes.Repeat([]byte{255}, n), bytes.Repeat([]byte{128}, n), s.someBytes(n)} {
			sameHex(t, fmt.Sprintf("Sha of %d bytes", n), impl.Sha(data), digestOf(data))
		}
	}
}

func TestShaByChance(t *testing.T) {
	s := turn(53)
	for range 300 {
		data := s.someBytes(s.below(impl.MaxHash/20 + 1))
		sameHex(t, fmt.Sprintf("Sha of %d bytes", len(data)), impl.Sha(data), digestOf(data))
	}
}

func TestShaOfTooMuch(t *testing.T) {
	for _, n := range tooLong() {
		for _, data := range [][]byte{make([]byte, n), bytes.Repeat([]byte{255}, n)} {
			sameHex(t, fmt.Sprintf("Sha of %d bytes", n), impl.Sha(data), nil)
			sameHex(t, fmt.Sprintf("Short of %d bytes", n), impl.Short(data), nil)
		}
	}
}

func TestShort(t *testing.T) {
	s := turn(54)
	for _, n := range shaSizes() {
		data := s.someBytes(n)
		sameHex(t, fmt.Sprintf("Short of %d bytes", n), impl.Short(data), digestOf(data)[:8])
	}
	sameHex(t, "Short of nil", impl.Short(nil), fromHex(t, "e3b0c44298fc1c14"))
	sameHex(t, "Short of abc", impl.Short([]byte("abc")), fromHex(t, "ba7816bf8f01cfea"))
}

func TestShaFromManySides(t *testing.T) {
	s := turn(55)
	data := s.someBytes(500)
	want := digestOf(data)
	answers := make([][]byte, 16)
	var all sync.WaitGroup
	for i := range answers {
		all.Go(func() { answers[i] = impl.Sha(data) })
	}
	all.Wait()
	for _, answer := range answers {
		sameHex(t, "Sha beside others", answer, want)
	}
}
