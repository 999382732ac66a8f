package tests

import (
	"bytes"
	"crypto/hmac"
	"crypto/sha256"
	"encoding/binary"
	"fmt"
	"math"
	"slices"
	"testing"

	"loop.example/g00148/impl"
)

const (
	maxSeed = 1000
	maxMask = 200
	maxHmac = 10000
)

func plainMask(seed []byte, n int) []byte {
	mask := []byte{}
	for counter := range uint32(n/32 + 1) {
		mask = append(mask, digestOf(binary.BigEndian.AppendUint32(slices.Clone(seed), counter))...)
	}
	return mask[:n]
}

func saysBytes(t *testing.T, what string, got []byte, ok bool, want []byte) {
	t.Helper()
	if !ok || !bytes.Equal(got, want) {
		t.Errorf("%s: got %x %v, want %x true", what, got, ok, want)
	}
}

func TestMask(t *testing.T) {
	s := turn(71)
	for _, size := range []int{0, 1, 4, 8, 51, 52, 59, 60, 61, 63, 64, 65, 500, maxSeed - 1, maxSeed} {
		seed := s.someBytes(size)
		for n := range maxMask + 1 {
			got, ok := impl.Mask(seed, n)
			saysBytes(t, fmt.Sprintf("Mask of %d bytes, %d", size, n), got, ok, plainMask(seed, n))
		}
	}
	got, ok := impl.Mask(nil, 32)
	saysBytes(t, "Mask of nil", got, ok, digestOf(make([]byte, 4)))
	got, ok = impl.Mask(nil, 0)
	saysBytes(t, "Mask of nil, 0", got, ok, nil)
}

func TestMaskRefuses(t *testing.T) {
	s := turn(72)
	for _, size := range []int{0, 1, 8, maxSeed - 1, maxSeed, maxSeed + 1, maxSeed + 2, impl.MaxHash - 4, impl.MaxHash, impl.MaxHash + 1, 1 << 20} {
		for _, n := range []int{math.MinInt, -1 << 32, -200, -32, -1, 0, 1, 31, 32, 33, 64, 199, 200, 201, 202, 224, 225, 256, 1 << 32, math.MaxInt} {
			if size <= maxSeed && within(n, 0, maxMask) {
				continue
			}
			got, ok := impl.Mask(s.someBytes(size), n)
			refused(t, fmt.Sprintf("Mask of %d bytes, %d", size, n), got, ok)
		}
	}
}

func plainHmac(key []byte, data []byte) []byte {
	h := hmac.New(sha256.New, key)
	h.Write(data)
	return h.Sum(nil)
}

func TestHmacPublished(t *testing.T) {
	published := []struct {
		key  []byte
		data string
		want string
	}{
		{bytes.Repeat([]byte{0x0b}, 20), "Hi There", "b0344c61d8db38535ca8afceaf0bf12b881dc200c9833da726e9376c2e32cff7"},
		{[]byte("Jefe"), "what do ya want for nothing?", "5bdcc146bf60754e6a042426089575c75a003f089d2739839dec58b964ec3843"},
		{bytes.Repeat([]byte{0xaa}, 20), string(bytes.Repeat([]byte{0xdd}, 50)), "773ea91e36800e46854db8ebd09181a72959098b3ef8c122d9635514ced565fe"},
		{fromHex(t, "0102030405060708090a0b0c0d0e0f10111213141516171819"), string(bytes.Repeat([]byte{0xcd}, 50)), "82558a389a443c0ea4cc819899f2083a85f0faa3e578f8077a2e3ff46729665b"},
		{bytes.Repeat([]byte{0xaa}, 131), "Test Using Larger Than Block-Size Key - Hash Key First", "60e431591ee0b67f0d8a26aacbf5b77f8e0bc6213728c5140546040f0ee37f54"},
		{bytes.Repeat([]byte{0xaa}, 131), "This is a test using a larger than block-size key and a larger than block-size data. The key needs to be hashed before being used by the HMAC algorithm.", "9b09ffa71b942fcb27635fbcd5b0e944bfdc63644f0713938a7f51535c3a35e2"},
		{nil, "", "b613679a0814d9ec772f95d778c35fc5ff1697c493715653c6c712144292c5ad"},
	}
	for _, p := range published {
		got, ok := impl.Hmac(p.key, []byte(p.data))
		saysBytes(t, fmt.Sprintf("Hmac of %q", p.data), got, ok, fromHex(t, p.want))
	}
}

func TestHmacOfAllSizes(t *testing.T) {
	s := turn(73)
	sizes := append(blockEdges(), 1000, maxHmac-1, maxHmac)
	for _, k := range sizes {
		key := s.someBytes(k)
		for _, n := range sizes {
			data := s.someBytes(n)
			got, ok := impl.Hmac(key, data)
			saysBytes(t, fmt.Sprintf("Hmac of a key of %d bytes and %d bytes", k, n), got, ok, plainHmac(key, data))
		}
	}
}

func TestHmacRefuses(t *testing.T) {
	s := turn(74)
	sizes := []int{0, 1, 63, 64, 65, maxHmac - 1, maxHmac, maxHmac + 1, maxHmac + 2, impl.MaxHash - 64, impl.MaxHash, impl.MaxHash + 1, 1 << 18}
	for _, k := range sizes {
		for _, n := range sizes {
			if k <= maxHmac && n <= maxHmac {
				continue
			}
			got, ok := impl.Hmac(s.someBytes(k), s.someBytes(n))
			refused(t, fmt.Sprintf("Hmac of a key of %d bytes and %d bytes", k, n), got, ok)
		}
	}
}

func TestKeyWithNoughtsBehind(t *testing.T) {
	s := turn(75)
	data := s.someBytes(100)
	for size := range block + 1 {
		key := s.someBytes(size)
		want, _ := impl.Hmac(key, data)
		for noughts := range block - size + 1 {
			got, ok := impl.Hmac(append(key[:size:size], make([]byte, noughts)...), data)
			saysBytes(t, fmt.Sprintf("a key of %d bytes with %d noughts behind", size, noughts), got, ok, want)
		}
		// One more than a block, and Sha of it is the key.
		if got, _ := impl.Hmac(append(key[:size:size], make([]byte, block-size+1)...), data); bytes.Equal(got, want) {
			t.Errorf("a key of %d bytes with noughts behind up to 65 is the same key", size)
		}
		// Ahead, noughts make another key.
		if got, _ := impl.Hmac(append([]byte{0}, key[:min(size, block-1)]...), data); size > 0 && bytes.Equal(got, want) {
			t.Errorf("a key of %d bytes with a nought ahead is the same key", size)
		}
	}
}

func TestLongKeyIsItsDigest(t *testing.T) {
	s := turn(76)
	data := s.someBytes(70)
	for _, size := range []int{0, 1, 32, 63, 64, 65, 66, 127, 128, 129, 1000, maxHmac - 1, maxHmac} {
		key := s.someBytes(size)
		whole, ok := impl.Hmac(key, data)
		short, _ := impl.Hmac(impl.Sha(key), data)
		if !ok || bytes.Equal(whole, short) != (size > block) {
			t.Errorf("a key of %d bytes: %x, and its digest: %x", size, whole, short)
		}
	}
}
