package tests

import (
	"slices"
	"testing"

	"loop.example/g00148/impl"
)

func flag(is bool) byte {
	if is {
		return 1
	}
	return 0
}

// sigCalls are the functions of lists of bytes: of a digest or a message first, and of a text or a signature.
func sigCalls() map[string]listCall[byte] {
	s := turn(171)
	r := s.rsaOf(200, 3)
	c, e := s.curveSecretOf(topCurve), s.edSecretOf(topEd, one)
	return map[string]listCall[byte]{
		"Padded": func(args [][]byte) [][]byte {
			answers := [][]byte{}
			for _, k := range []int{22, 23, 24, 40, 63, 64, 65} {
				text, _ := impl.Padded(args[0], k)
				answers = append(answers, text)
			}
			return answers
		},
		"PssOk": func(args [][]byte) [][]byte {
			return [][]byte{{flag(impl.PssOk(args[1], 199, args[0])), flag(impl.PssOk(args[1], 511, args[0]))}}
		},
		"Reduce": func(args [][]byte) [][]byte { return [][]byte{highThree(impl.Reduce(args[0], 1<<20))} },
		"Verify": func(args [][]byte) [][]byte {
			return [][]byte{{
				flag(impl.Verify(r.key(), impl.AlgRsa, args[0], args[1])), flag(impl.Verify(r.key(), impl.AlgPss, args[0], args[1])),
				flag(impl.Verify(c.key(), impl.AlgCurve, args[0], args[1])), flag(impl.Verify(e.key(), impl.AlgEd, args[0], args[1])),
			}}
		},
	}
}

func TestSignaturesStandAlone(t *testing.T) {
	s := turn(171)
	r := s.rsaOf(200, 3)
	c, e := s.curveSecretOf(topCurve), s.edSecretOf(topEd, one)
	h := s.someBytes(8)
	curveSig, _ := c.sign(h, 5)
	lists := [][]byte{
		nil, {}, h, s.someBytes(7), s.someBytes(9), s.someBytes(25), s.someBytes(64), s.someBytes(impl.MaxHash),
		maskedText(199, h, []byte("salt")), maskedText(511, h, []byte("salt")),
		r.signPadded(h), r.signMasked(h, []byte("salt")), curveSig, e.sign(h, 6, one),
	}
	for what, call := range sigCalls() {
		for _, a := range lists {
			for _, b := range lists {
				standsAlone(t, what, [][]byte{a, b}, call)
			}
			takesOneListForAll(t, what, a, 2, call)
		}
	}
	// What was guarded above was verified as well.
	for i, sig := range lists[len(lists)-4:] {
		if got := sigCalls()["Verify"]([][]byte{h, sig}); got[0][i] != 1 {
			t.Errorf("signature %d is not verified: %v", i, got)
		}
	}
}

// keyCalls have the list of a key alone.
func keyCalls(e int, msg []byte, padded []byte, masked []byte) listCall[int] {
	return func(args [][]int) [][]int {
		key, other := rsaKey(args[0], e), rsaKey(args[1], e)
		return [][]int{{
			int(flag(impl.KeyOk(key))), int(flag(impl.SameKey(key, other))),
			impl.SigSize(key, impl.AlgRsa), impl.SigSize(key, impl.AlgPss),
			int(flag(impl.Verify(key, impl.AlgRsa, msg, padded))), int(flag(impl.Verify(key, impl.AlgPss, msg, masked))),
		}}
	}
}

func TestKeysStandAlone(t *testing.T) {
	s := turn(172)
	r := s.rsaOf(505, 65537)
	n := r.key().N
	msg := []byte("whose N is guarded")
	call := keyCalls(r.e, msg, r.signPadded(msg), r.signMasked(msg, []byte("salt")))
	lists := [][]int{nil, {}, {1}, n, slices.Clone(n), many(65535, 8), many(65535, 33), append(slices.Clone(n), 0), many(1, 65)}
	for _, a := range lists {
		for _, b := range lists {
			standsAlone(t, "a key", [][]int{a, b}, call)
		}
		takesOneListForAll(t, "a key", a, 2, call)
	}
	if got := call([][]int{n, n}); !slices.Equal(got[0], []int{1, 1, 64, 64, 1, 1}) {
		t.Errorf("the key that was guarded: %v", got)
	}
}

// A message and a signature in one room, one behind the other or one within the other.
func TestMessageAndSignatureInOneRoom(t *testing.T) {
	msg := []byte("in one room")
	for _, by := range signers() {
		sig := by.sign(msg)
		room := slices.Concat(msg, sig)
		was := slices.Clone(room)
		verifies(t, by.name, by.key, by.alg, room[:len(msg)], room[len(msg):], true)
		room = slices.Concat(sig, msg)
		verifies(t, by.name, by.key, by.alg, room[len(sig):], room[:len(sig)], true)
		sameHex(t, "the room", slices.Concat(room[len(sig):], room[:len(sig)]), was)
	}
}

func TestSignaturesEndSoon(t *testing.T) {
	s := turn(173)
	most := s.someBytes(impl.MaxHash)
	for _, e := range []int{3, 65535, 65537} {
		r := s.rsaOf(512, e)
		padded, masked := r.signPadded(most), r.signMasked(most, []byte("salt"))
		endsSoon(t, "AlgRsa", func() { verifies(t, "AlgRsa", r.key(), impl.AlgRsa, most, padded, true) })
		endsSoon(t, "AlgPss", func() { verifies(t, "AlgPss", r.key(), impl.AlgPss, most, masked, true) })
	}
	for _, k := range greatCurves() {
		c := s.curveSecretOf(k)
		sig, _ := c.sign(most, k.N-1)
		endsSoon(t, "AlgCurve", func() { verifies(t, "AlgCurve", c.key(), impl.AlgCurve, most, sig, true) })
	}
	for _, k := range greatEds() {
		e := s.edSecretOf(k, one)
		sig := e.sign(most[6:], k.L-1, one)
		endsSoon(t, "AlgEd", func() { verifies(t, "AlgEd", e.key(), impl.AlgEd, most[6:], sig, true) })
	}
	long, huge := make([]byte, 1<<24), many(65535, 1<<20)
	for _, by := range signers() {
		endsSoon(t, "a long message", func() { verifies(t, by.name, by.key, by.alg, long, by.sign(nil), false) })
		endsSoon(t, "a long signature", func() { verifies(t, by.name, by.key, by.alg, nil, long, false) })
	}
	endsSoon(t, "a long N", func() { saysKey(t, "a long N", rsaKey(huge, 3), false) })
	endsSoon(t, "Padded", func() { impl.Padded(long, 1<<62) })
	endsSoon(t, "PssOk", func() { impl.PssOk(long, 1<<27, long) })
	endsSoon(t, "Reduce", func() { impl.Reduce(long, 1<<31) })
}
