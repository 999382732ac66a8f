package tests

import (
	"bytes"
	"crypto/sha256"
	"encoding/hex"
	"slices"
	"testing"

	"loop.example/g00148/impl"
)

const block = 64

func (s *turn) someBytes(n int) []byte {
	data := make([]byte, n)
	for i := range data {
		data[i] = byte(s.below(256))
	}
	return data
}

// digestOf is reckoned apart from the program.
func digestOf(data []byte) []byte {
	digest := sha256.Sum256(data)
	return digest[:]
}

func fromHex(t *testing.T, text string) []byte {
	t.Helper()
	b, err := hex.DecodeString(text)
	if err != nil {
		t.Fatal(err)
	}
	return b
}

func sameHex(t *testing.T, what string, got []byte, want []byte) {
	t.Helper()
	if !bytes.Equal(got, want) {
		t.Errorf("%s: got %x, want %x", what, got, want)
	}
}

// blockEdges are sizes just below, at and above a block, and what a block leaves room for beside the length.
func blockEdges() []int {
	return []int{0, 1, 2, 54, 55, 56, 57, 62, 63, 64, 65, 66, 118, 119, 120, 121, 126, 127, 128, 129, 191, 192, 193}
}

func hashEdges() []int {
	return append(blockEdges(), 1000, impl.MaxHash-block, impl.MaxHash-2, impl.MaxHash-1, impl.MaxHash)
}

func tooLong() []int {
	return []int{impl.MaxHash + 1, impl.MaxHash + 2, impl.MaxHash + 31, impl.MaxHash + 32, impl.MaxHash + 33, impl.MaxHash + block, 2 * impl.MaxHash, 1 << 16, 1<<16 + 3, 1 << 20}
}

func sameStream(t *testing.T, what string, got impl.Stream, want impl.Stream) {
	t.Helper()
	if got.H != want.H || got.Many != want.Many || !bytes.Equal(got.Rest, want.Rest) {
		t.Errorf("%s: got %v, want %v", what, got, want)
	}
}

// fed wants the data taken.
func fed(t *testing.T, s impl.Stream, data []byte) impl.Stream {
	t.Helper()
	more, ok := impl.Feed(s, data)
	if !ok {
		t.Fatalf("Feed of %d bytes behind %d: refused", len(data), s.Many)
	}
	return more
}

// saysAll checks that a stream is one that all was fed into, as one piece or as others.
func saysAll(t *testing.T, what string, s impl.Stream, all []byte) {
	t.Helper()
	if !impl.StreamOk(s) {
		t.Errorf("%s: not StreamOk: %v", what, s)
	}
	if s.Many != len(all) || !bytes.Equal(s.Rest, all[len(all)/block*block:]) {
		t.Errorf("%s: %d bytes, %v not used yet", what, s.Many, s.Rest)
	}
	sameStream(t, what+", and as one piece", s, fed(t, impl.NewStream(), all))
	sameHex(t, what+": Digest", impl.Digest(s), digestOf(all))
	sameHex(t, what+": Sha", impl.Sha(all), impl.Digest(s))
}

// behindPieces feeds data in pieces that are each as long as size says of the place they begin at.
func behindPieces(t *testing.T, data []byte, size func(begin int) int) impl.Stream {
	t.Helper()
	s := impl.NewStream()
	for begin := 0; begin < len(data); {
		end := min(begin+size(begin), len(data))
		s = fed(t, s, data[begin:end])
		begin = end
	}
	return s
}

// keptStream is a stream, and a copy of it that nothing else writes into.
func keptStream(s impl.Stream) impl.Stream {
	return impl.Stream{H: s.H, Rest: slices.Clone(s.Rest), Many: s.Many}
}

// wrongStreams are no StreamOk, each for one reason.
func wrongStreams() []impl.Stream {
	wrong := []impl.Stream{}
	s := turn(51)
	rest := s.someBytes(200)
	for i := range 8 {
		for _, word := range []int{-1, 1 << 32, -1 << 32, 1<<32 + 5, 1<<63 - 1, -1 << 63} {
			a := impl.Stream{Rest: rest[:3:3], Many: block + 3}
			a.H[i] = word
			wrong = append(wrong, a)
		}
	}
	h := impl.NewStream().H
	for _, many := range []int{-1, -block, -block + 1, impl.MaxHash + 1, impl.MaxHash + 32, 1<<63 - 1, -1 << 63} {
		left := (many%block + block) % block
		wrong = append(wrong, impl.Stream{H: h, Rest: rest[:left:left], Many: many})
		if many < 0 {
			wrong = append(wrong, impl.Stream{H: h, Many: many})
		}
	}
	for _, many := range []int{0, 1, 63, 64, 65, 127, 128, 9999, impl.MaxHash} {
		for _, size := range []int{many%block - 1, many%block + 1, many%block + block, many%block + 2*block} {
			if size >= 0 {
				wrong = append(wrong, impl.Stream{H: h, Rest: rest[:size:size], Many: many})
			}
		}
	}
	return append(wrong, impl.Stream{H: h, Rest: rest[:block], Many: block}, impl.Stream{H: h, Rest: rest[:block+1], Many: block + 1}, impl.Stream{H: h, Rest: rest, Many: 200})
}
