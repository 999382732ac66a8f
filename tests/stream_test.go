package tests

import (
	"crypto/sha256"
	"encoding/binary"
	"fmt"
	"math/big"
	"slices"
	"sync"
	"testing"

	"loop.example/g00148/impl"
)

// firstWords are the published ones.
func firstWords() [8]int {
	return [8]int{0x6a09e667, 0xbb67ae85, 0x3c6ef372, 0xa54ff53a, 0x510e527f, 0x9b05688c, 0x1f83d9ab, 0x5be0cd19}
}

func wordsOf(digest []byte) [8]int {
	words := [8]int{}
	for i := range words {
		words[i] = int(binary.BigEndian.Uint32(digest[4*i:]))
	}
	return words
}

func TestNewStream(t *testing.T) {
	sameStream(t, "NewStream", impl.NewStream(), impl.Stream{H: firstWords()})
	saysAll(t, "NewStream", impl.NewStream(), nil)
}

func TestFirstWordsAreRoots(t *testing.T) {
	words := impl.NewStream().H
	for i, prime := range []int64{2, 3, 5, 7, 11, 13, 17, 19} {
		root := new(big.Int).Lsh(big.NewInt(prime), 64)
		root.Sqrt(root)
		if want := int(root.Int64() & (1<<32 - 1)); words[i] != want {
			t.Errorf("word %d: got %x, the root of %d has %x", i, words[i], prime, want)
		}
	}
}

// A new stream is the same one, whether others are asked for beside it or were ahead of it.
func TestNewStreamFromManySides(t *testing.T) {
	answers := make([]impl.Stream, 32)
	var all sync.WaitGroup
	for i := range answers {
		all.Go(func() { answers[i] = impl.NewStream() })
	}
	all.Wait()
	for _, answer := range append(answers, impl.NewStream()) {
		sameStream(t, "NewStream beside others", answer, impl.Stream{H: firstWords()})
		sameHex(t, "abc behind it", impl.Digest(fed(t, answer, []byte("abc"))), impl.Sha([]byte("abc")))
	}
}

func TestWordsBehindABlockPublished(t *testing.T) {
	s := fed(t, impl.NewStream(), []byte(twoBlocks+"\x80\x00\x00\x00\x00\x00\x00\x00"))
	want := wordsOf(fromHex(t, "85e655d6417a17953363376a624cde5c76e09589cac5f811cc4b32c1f20e533a"))
	sameStream(t, "the first of two blocks", s, impl.Stream{H: want, Many: block})
}

func TestStreamOkWords(t *testing.T) {
	for i := range 8 {
		for _, word := range append(farOff(), -1<<32, -1, 0, 1, 1<<31-1, 1<<31, 1<<32-1, 1<<32, 1<<32+1, 1<<33) {
			for _, base := range []impl.Stream{{}, impl.NewStream()} {
				s := base
				s.H[i] = word
				if got, want := impl.StreamOk(s), within(word, 0, 1<<32-1); got != want {
					t.Errorf("StreamOk with word %d at %d: %v", i, word, got)
				}
			}
		}
	}
	if !impl.StreamOk(impl.Stream{H: [8]int{1<<32 - 1, 1<<32 - 1, 1<<32 - 1, 1<<32 - 1, 1<<32 - 1, 1<<32 - 1, 1<<32 - 1, 1<<32 - 1}}) {
		t.Error("not StreamOk with all words at 2^32 - 1")
	}
}

func TestStreamOkSizes(t *testing.T) {
	below := []int{-129, -128, -65, -64, -63, -32, -1}
	for _, many := range slices.Concat(farOff(), below, shaSizes(), tooLong()) {
		for size := range 3*block + 1 {
			s := impl.Stream{H: firstWords(), Rest: make([]byte, size), Many: many}
			want := within(many, 0, impl.MaxHash) && size == many%block
			if got := impl.StreamOk(s); got != want {
				t.Errorf("StreamOk with %d bytes not used of %d: %v", size, many, got)
			}
		}
	}
}

func TestWrongStreamsAreNotOk(t *testing.T) {
	for _, s := range wrongStreams() {
		if impl.StreamOk(s) {
			t.Errorf("StreamOk: %v", s)
		}
		sameHex(t, fmt.Sprint("Digest of ", s), impl.Digest(s), nil)
		for _, data := range [][]byte{nil, {}, []byte("a"), make([]byte, 61), make([]byte, block), make([]byte, impl.MaxHash), make([]byte, impl.MaxHash+1)} {
			was := keptStream(s)
			got, ok := impl.Feed(s, data)
			if ok {
				t.Errorf("Feed of %d bytes behind %v: true", len(data), s)
			}
			sameStream(t, "Feed of a wrong stream", got, was)
		}
	}
}

func TestInTwoPieces(t *testing.T) {
	s := turn(56)
	for _, n := range blockEdges() {
		data := s.someBytes(n)
		for cut := range n + 1 {
			half := fed(t, impl.NewStream(), data[:cut])
			saysAll(t, fmt.Sprintf("%d of %d bytes", cut, n), half, data[:cut])
			saysAll(t, fmt.Sprintf("%d bytes cut at %d", n, cut), fed(t, half, data[cut:]), data)
		}
	}
}

func TestInThreePieces(t *testing.T) {
	s := turn(57)
	data := s.someBytes(4 * block)
	for _, first := range blockEdges() {
		for _, second := range blockEdges() {
			if first > second {
				continue
			}
			stream := fed(t, impl.NewStream(), data[:first])
			stream = fed(t, stream, data[first:second])
			stream = fed(t, stream, data[second:])
			saysAll(t, fmt.Sprintf("cut at %d and %d", first, second), stream, data)
		}
	}
}

func TestByteByByte(t *testing.T) {
	s := turn(58)
	data := s.someBytes(impl.MaxHash)
	stream := impl.NewStream()
	for i := range data {
		if i <= 5*block || i%997 == 0 {
			saysAll(t, fmt.Sprintf("%d bytes, one by one", i), stream, data[:i])
		}
		stream = fed(t, stream, data[i:i+1])
	}
	saysAll(t, "MaxHash bytes, one by one", stream, data)
}

func TestPiecesOfOneSize(t *testing.T) {
	s := turn(59)
	for _, whole := range []int{1, 63, 64, 65, 500, 1000, impl.MaxHash - 1, impl.MaxHash} {
		data := s.someBytes(whole)
		for _, size := range []int{1, 2, 3, 7, 32, 54, 55, 56, 57, 62, 63, 64, 65, 66, 119, 120, 121, 127, 128, 129, 1000, 9999, 10000, impl.MaxHash} {
			stream := behindPieces(t, data, func(int) int { return size })
			saysAll(t, fmt.Sprintf("%d bytes in pieces of %d", whole, size), stream, data)
		}
	}
}

func TestPiecesByChance(t *testing.T) {
	s := turn(60)
	edges := hashEdges()
	for range 200 {
		data := s.someBytes(s.below(3000))
		stream := behindPieces(t, data, func(int) int {
			if s.below(2) == 0 {
				return edges[s.below(20)]
			}
			return s.below(200)
		})
		saysAll(t, "pieces by chance", stream, data)
	}
}

func TestFedNothing(t *testing.T) {
	s := turn(61)
	for _, n := range hashEdges() {
		data := s.someBytes(n)
		stream := fed(t, impl.NewStream(), data)
		for _, nothing := range [][]byte{nil, {}} {
			saysAll(t, fmt.Sprintf("nothing behind %d bytes", n), fed(t, stream, nothing), data)
			early := fed(t, impl.NewStream(), nothing)
			sameStream(t, "nothing", early, impl.NewStream())
			saysAll(t, fmt.Sprintf("%d bytes behind nothing", n), fed(t, early, data), data)
		}
	}
}

func TestDigestInBetween(t *testing.T) {
	s := turn(62)
	for range 20 {
		data := s.someBytes(600)
		stream, whole := impl.NewStream(), 0
		for whole < len(data) {
			next := min(whole+s.below(130), len(data))
			stream = fed(t, stream, data[whole:next])
			whole = next
			for range 2 {
				was := keptStream(stream)
				sameHex(t, "Digest in between", impl.Digest(stream), digestOf(data[:whole]))
				sameStream(t, "the stream behind its Digest", stream, was)
			}
		}
	}
}

func TestFeedUpToMaxHash(t *testing.T) {
	s := turn(63)
	data := s.someBytes(1 << 20)
	for _, n := range hashEdges() {
		stream := fed(t, impl.NewStream(), data[:n])
		saysAll(t, fmt.Sprintf("MaxHash bytes, %d first", n), fed(t, stream, data[n:impl.MaxHash]), data[:impl.MaxHash])
		for _, end := range tooLong() {
			got, ok := impl.Feed(stream, data[n:end])
			if ok {
				t.Errorf("Feed of %d bytes behind %d: true", end-n, n)
			}
			sameStream(t, fmt.Sprintf("Feed of %d bytes behind %d", end-n, n), got, stream)
			saysAll(t, "the stream behind a Feed that was refused", got, data[:n])
		}
	}
}

func TestOneStreamFedTwice(t *testing.T) {
	s := turn(64)
	for _, n := range blockEdges() {
		for _, m := range blockEdges() {
			data := s.someBytes(n + m)
			other := append(data[:n:n], s.someBytes(m)...)
			stream := fed(t, impl.NewStream(), data[:n])
			first, second := fed(t, stream, data[n:]), fed(t, stream, other[n:])
			saysAll(t, "the first branch", first, data)
			saysAll(t, "the second branch", second, other)
			saysAll(t, "their root", stream, data[:n])
		}
	}
}

// SHA-224 is the same rule from other words on.
func TestOtherWordsAtFirst(t *testing.T) {
	words := [8]int{0xc1059ed8, 0x367cd507, 0x3070dd17, 0xf70e5939, 0xffc00b31, 0x68581511, 0x64f98fa7, 0xbefa4fa4}
	s := turn(65)
	for _, n := range hashEdges() {
		data := s.someBytes(n)
		want := sha256.Sum224(data)
		got := impl.Digest(fed(t, impl.Stream{H: words}, data))
		sameHex(t, fmt.Sprintf("SHA-224 of %d bytes", n), got[:min(28, len(got))], want[:])
	}
}

// A digest's words are those behind the data and what was put behind them.
func TestDigestAsWords(t *testing.T) {
	s := turn(66)
	for _, n := range blockEdges() {
		data := s.someBytes(n)
		padded := append(append(data[:n:n], 128), make([]byte, (2*block-9-n%block)%block)...)
		padded = binary.BigEndian.AppendUint64(padded, uint64(8*n))
		more := s.someBytes(s.below(300))
		stream := impl.Stream{H: wordsOf(impl.Sha(data)), Many: len(padded)}
		saysAll(t, "further than a digest", fed(t, stream, more), append(padded, more...))
	}
}

// The digests were reckoned by another program.
func TestWordsAtTheEdges(t *testing.T) {
	top := [8]int{}
	rest := make([]byte, 32)
	for i := range top {
		top[i] = 1<<32 - 1
	}
	for i := range rest {
		rest[i] = 255
	}
	sameHex(t, "words 0", impl.Digest(impl.Stream{}), fromHex(t, "361ab6322fa9e7a7bb23818d839e01bddafdf47305426edd297aedb9f6202bae"))
	sameHex(t, "words 0, abc", impl.Digest(fed(t, impl.Stream{}, []byte("abc"))), fromHex(t, "47503433482e4df44ace424ff2c6bf2097c825ada75403e1bdb11d8eaec6ce4e"))
	sameHex(t, "words 0 behind a block, abc", impl.Digest(impl.Stream{Rest: []byte("abc"), Many: 67}), fromHex(t, "43e6442241b7dab36b475650ac3ea5b0a28d5183256b8fdbf17abf77e83d9bb3"))
	sameHex(t, "words 2^32 - 1", impl.Digest(impl.Stream{H: top}), fromHex(t, "b0690f9615ee3427c02015d654f6076bfe23416cbae309dc3f0d5cac9b70fdd5"))
	sameHex(t, "words 2^32 - 1 at MaxHash", impl.Digest(impl.Stream{H: top, Rest: rest, Many: impl.MaxHash}), fromHex(t, "c77b6596e0e2c7caf5f85e50f82d5c42d6a74fe664515c522b79cb519304ca97"))
}
