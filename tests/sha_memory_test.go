package tests

import (
	"bytes"
	"fmt"
	"slices"
	"testing"

	"loop.example/g00148/impl"
)

// streamOf has a Rest that may be spoilt by whoever handed it in.
func streamOf(rest []byte) impl.Stream {
	return impl.Stream{H: firstWords(), Rest: rest, Many: 5*block + len(rest)}
}

// shaCalls are the functions of two lists of bytes, or of the first of them.
func shaCalls() map[string]listCall[byte] {
	return map[string]listCall[byte]{
		"Sha":    func(args [][]byte) [][]byte { return [][]byte{impl.Sha(args[0])} },
		"Short":  func(args [][]byte) [][]byte { return [][]byte{impl.Short(args[0])} },
		"Digest": func(args [][]byte) [][]byte { return [][]byte{impl.Digest(streamOf(args[0]))} },
		"Hmac":   func(args [][]byte) [][]byte { c, _ := impl.Hmac(args[0], args[1]); return [][]byte{c} },
		"Feed": func(args [][]byte) [][]byte {
			s, _ := impl.Feed(streamOf(args[0]), args[1])
			return [][]byte{s.Rest, impl.Digest(s)}
		},
		"Mask": func(args [][]byte) [][]byte {
			answers := [][]byte{}
			for _, n := range []int{-1, 0, 1, 31, 32, 33, 64, 200, 201} {
				mask, _ := impl.Mask(args[0], n)
				answers = append(answers, mask)
			}
			return answers
		},
	}
}

func TestDigestsStandAlone(t *testing.T) {
	s := turn(81)
	lists := [][]byte{nil, {}}
	for _, n := range append(hashEdges(), 1001, maxHmac, maxHmac+1, impl.MaxHash+1) {
		lists = append(lists, s.someBytes(n))
	}
	for what, call := range shaCalls() {
		for i, a := range lists {
			for _, j := range []int{0, i, 3, 12, 20, len(lists) - 1} {
				standsAlone(t, what, [][]byte{a, lists[j]}, call)
			}
			takesOneListForAll(t, what, a, 2, call)
		}
	}
}

func TestNewStreamsStandAlone(t *testing.T) {
	first := impl.NewStream()
	second := impl.NewStream()
	spoil(first.Rest, spoilMark)
	clear(first.H[:])
	sameStream(t, "another new stream", second, impl.Stream{H: firstWords()})
	sameStream(t, "a later new stream", impl.NewStream(), impl.Stream{H: firstWords()})
	sameHex(t, "Sha behind it", impl.Sha([]byte("abc")), digestOf([]byte("abc")))
}

// Data behind Rest in one room: what is put behind Rest there would be written over the data.
func TestDataInTheRoomBehindRest(t *testing.T) {
	s := turn(82)
	for rest := range block {
		for _, ahead := range []bool{false, true} {
			room := s.someBytes(4 * block)
			was := slices.Clone(room)
			stream := fed(t, impl.NewStream(), room[:rest])
			stream.Rest = room[:rest]
			data := room[rest:]
			if ahead {
				data = room[rest/2 : 3*block]
			}
			got := fed(t, stream, data)
			saysAll(t, fmt.Sprintf("data behind %d bytes in one room", rest), got, slices.Concat(was[:rest], data))
			spoil(got.Rest, spoilMark)
			if !bytes.Equal(room, was) {
				t.Errorf("Feed behind %d bytes wrote into its arguments", rest)
			}
		}
	}
}

func TestFedStreamLeavesTheOther(t *testing.T) {
	s := turn(83)
	for _, n := range blockEdges() {
		for _, m := range append(blockEdges(), impl.MaxHash) {
			data := s.someBytes(n + m)
			stream := fed(t, impl.NewStream(), data[:n])
			more, _ := impl.Feed(stream, data[n:])
			spoil(more.Rest, spoilMark)
			saysAll(t, "a stream whose follower was spoilt", stream, data[:n])
			again, ok := impl.Feed(stream, data[n:])
			if ok {
				saysAll(t, "fed again", again, data)
			}
			spoil(stream.Rest, spoilMark)
			if ok {
				saysAll(t, "fed from a stream that was spoilt", again, data)
			}
		}
	}
}

func TestRefusedStreamStandsAlone(t *testing.T) {
	for _, s := range wrongStreams() {
		was := keptStream(s)
		got, _ := impl.Feed(s, []byte("abc"))
		spoil(got.Rest, spoilMark)
		sameStream(t, "a stream that was refused", s, was)
		again, _ := impl.Feed(s, []byte("abc"))
		sameStream(t, "a stream that was refused again", again, was)
	}
}

func TestDigestsEndSoon(t *testing.T) {
	data := make([]byte, 1<<24)
	endsSoon(t, "Sha", func() { impl.Sha(data[:impl.MaxHash]) })
	endsSoon(t, "Sha of too much", func() { impl.Sha(data) })
	endsSoon(t, "Short", func() { impl.Short(data[:impl.MaxHash]) })
	endsSoon(t, "Feed", func() { impl.Feed(impl.NewStream(), data[:impl.MaxHash]) })
	endsSoon(t, "Feed of too much", func() { impl.Feed(impl.NewStream(), data) })
	endsSoon(t, "Feed behind too much", func() { impl.Feed(impl.Stream{Rest: data}, data) })
	endsSoon(t, "Digest", func() { impl.Digest(impl.Stream{Rest: data[:32], Many: impl.MaxHash}) })
	endsSoon(t, "Mask", func() { impl.Mask(data[:maxSeed], maxMask) })
	endsSoon(t, "Mask of too much", func() { impl.Mask(data, 1<<62) })
	endsSoon(t, "Hmac", func() { impl.Hmac(data[:maxHmac], data[:maxHmac]) })
	endsSoon(t, "Hmac of too much", func() { impl.Hmac(data, data) })
}
