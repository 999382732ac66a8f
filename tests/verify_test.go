package tests

import (
	"bytes"
	"math"
	"slices"
	"testing"

	"loop.example/g00148/impl"
)

func TestSignedIsVerified(t *testing.T) {
	s := turn(101)
	for _, by := range signers() {
		for _, msg := range s.someMessages() {
			verifies(t, by.name, by.key, by.alg, msg, by.sign(msg), true)
		}
	}
}

// allAlgs are those that there are, and some that there are not.
func allAlgs() []int {
	return append(farOff(), -4, -3, -2, 0, 1, 2, 3, 4, 5, 6, 257, 258, 259, 260)
}

func TestByAnotherAlgorithmItIsNot(t *testing.T) {
	msg := []byte("a message")
	for _, by := range signers() {
		sig := by.sign(msg)
		for _, alg := range allAlgs() {
			verifies(t, by.name, by.key, alg, msg, sig, alg == by.alg)
		}
	}
}

func TestInAnotherSizeItIsNot(t *testing.T) {
	msg := []byte("another message")
	for _, by := range signers() {
		sig := by.sign(msg)
		verifies(t, by.name, by.key, by.alg, msg, sig, true)
		for n := range len(sig) {
			verifies(t, by.name, by.key, by.alg, msg, sig[:n], false)
			verifies(t, by.name, by.key, by.alg, msg, sig[len(sig)-n:], false)
			verifies(t, by.name, by.key, by.alg, msg, slices.Delete(slices.Clone(sig), n, n+1), false)
		}
		for _, more := range [][]byte{{0}, {1}, {255}, {0, 0}, make([]byte, 64), sig} {
			verifies(t, by.name, by.key, by.alg, msg, slices.Concat(more, sig), false)
			verifies(t, by.name, by.key, by.alg, msg, slices.Concat(sig, more), false)
		}
		verifies(t, by.name, by.key, by.alg, msg, nil, false)
		verifies(t, by.name, by.key, by.alg, msg, []byte{}, false)
	}
}

func TestOfAnotherMessageItIsNot(t *testing.T) {
	msg := []byte("some message")
	for _, by := range signers() {
		sig := by.sign(msg)
		for _, other := range [][]byte{nil, []byte("some messagf"), []byte("some messag"), []byte("some message\x00"), []byte("\x00some message"), shortOf(msg), digestOf(msg)} {
			verifies(t, by.name, by.key, by.alg, other, sig, false)
		}
	}
}

func TestOfAnotherKeyItIsNot(t *testing.T) {
	msg := []byte("whose message")
	list := signers()
	for i, by := range list {
		sig := by.sign(msg)
		for j, other := range list {
			if i != j && !impl.SameKey(by.key, other.key) {
				verifies(t, other.name, other.key, by.alg, msg, sig, false)
			}
		}
	}
}

func TestMessagesUpToMaxHash(t *testing.T) {
	s := turn(102)
	all := s.someBytes(2 * impl.MaxHash)
	for _, by := range signers() {
		most := impl.MaxHash
		if by.alg == impl.AlgEd {
			most -= 6
		}
		for _, n := range []int{most - 1, most} {
			verifies(t, by.name, by.key, by.alg, all[:n], by.sign(all[:n]), true)
		}
		for _, n := range []int{most + 1, most + 2, impl.MaxHash + 1, 2 * impl.MaxHash} {
			verifies(t, by.name, by.key, by.alg, all[:n], by.sign(all[:n]), false)
		}
	}
}

// A digest of nothing is what a message that is too long would have, were it asked further.
func TestTooLongIsNotAsNothing(t *testing.T) {
	long := make([]byte, impl.MaxHash+1)
	for _, by := range signers() {
		verifies(t, by.name, by.key, by.alg, long, by.sign(nil), false)
	}
}

func TestOfAKeyThatIsNotOkItIsNot(t *testing.T) {
	msg := []byte("a message for wrong keys")
	for _, by := range signers() {
		sig := by.sign(msg)
		for what, wrong := range spoiltKeys(by.key) {
			verifies(t, by.name+", "+what, wrong, by.alg, msg, sig, false)
		}
	}
}

func TestVerifyOfNothingAtAll(t *testing.T) {
	for _, kind := range []int{math.MinInt, -1, 0, 1, 2, 3, 4, math.MaxInt} {
		for _, alg := range allAlgs() {
			for _, sig := range [][]byte{nil, {}, {0}, make([]byte, 6), make([]byte, 16), make([]byte, 64), make([]byte, 1000)} {
				verifies(t, "an empty key", impl.Key{Kind: kind}, alg, nil, sig, false)
			}
		}
	}
}

// Of these keys no signature is one but by a wonder.
func TestAnyBytesAreNoSignature(t *testing.T) {
	s := turn(103)
	for _, by := range signers() {
		size := impl.SigSize(by.key, by.alg)
		for _, sig := range [][]byte{make([]byte, size), bytes.Repeat([]byte{255}, size), append(make([]byte, size-1), 1), s.someBytes(size)} {
			verifies(t, by.name, by.key, by.alg, []byte("unsigned"), sig, false)
		}
	}
}

func TestVerifyAgain(t *testing.T) {
	msg := []byte("again and again")
	for _, by := range signers() {
		sig := by.sign(msg)
		for i := range 6 {
			if i%2 == 0 {
				verifies(t, by.name, by.key, by.alg, msg, sig, true)
			} else {
				verifies(t, by.name, by.key, by.alg, msg, sig[1:], false)
			}
		}
	}
}
