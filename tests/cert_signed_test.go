package tests

import (
	"slices"
	"testing"

	"loop.example/g00148/impl"
)

func saysSigned(t *testing.T, what string, c impl.Cert, by impl.Key, want bool) {
	t.Helper()
	if got := impl.Signed(c, by); got != want {
		t.Errorf("%s: Signed of %+v by %+v: got %v, want %v", what, c, by, got, want)
	}
}

// sealedBy is the certificate with a signature over what is reckoned apart.
func sealedBy(c impl.Cert, by signer) impl.Cert {
	c.Alg = by.alg
	c.Sig = by.sign(tbsNode(c).text())
	return c
}

func TestSignedByTheRightKey(t *testing.T) {
	s := turn(351)
	keys := someKeys()
	for _, by := range signers() {
		for _, c := range []impl.Cert{plainCert(), fullCert(), greatestCert(), s.someCert(keys), s.someCert(keys)} {
			saysSigned(t, by.name, sealedBy(c, by), by.key, true)
		}
		own := fullCert()
		own.Key = by.key
		saysSigned(t, by.name+", its own", sealedBy(own, by), by.key, true)
	}
}

func TestSignedComesBack(t *testing.T) {
	for _, by := range signers() {
		c := sealedBy(fullCert(), by)
		certComesBack(t, by.name, c)
		text, _ := impl.WriteCert(c)
		again, _ := impl.ReadCert(text)
		saysSigned(t, by.name+", from its bytes", again, by.key, true)
	}
}

func TestSignedByAnotherKey(t *testing.T) {
	list := signers()
	for i, by := range list {
		c := sealedBy(fullCert(), by)
		for j, other := range list {
			if i != j && !impl.SameKey(by.key, other.key) {
				saysSigned(t, by.name+", by another key", c, other.key, false)
			}
		}
	}
}

func TestSignedByAKeyThatIsNotOk(t *testing.T) {
	for _, by := range signers() {
		c := sealedBy(fullCert(), by)
		for what, wrong := range spoiltKeys(by.key) {
			saysSigned(t, what, c, wrong, false)
		}
		saysSigned(t, "no key", c, impl.Key{}, false)
	}
}

func TestSignedByAnotherAlgorithm(t *testing.T) {
	for _, by := range signers() {
		for alg := impl.AlgRsa; alg <= impl.AlgEd; alg++ {
			c := sealedBy(fullCert(), by)
			other := by
			other.alg = alg
			saysSigned(t, "another Alg", sealedBy(c, other), by.key, alg == by.alg)
			c.Alg = alg
			saysSigned(t, "another Alg behind the signature", c, by.key, alg == by.alg)
		}
	}
}

// What is told of a wrong certificate can be signed all the same.
func TestSignedOfACertThatIsNotOk(t *testing.T) {
	wrongs := map[string]func(c *impl.Cert){
		"Serial 0": func(c *impl.Cert) { c.Serial = 0 }, "Serial": func(c *impl.Cert) { c.Serial = serialMost + 1 }, "no Issuer": func(c *impl.Cert) { c.Issuer = nil },
		"an empty text": func(c *impl.Cert) { c.Subject = []string{""} }, "From above To": func(c *impl.Cert) { c.From = c.To + 1 }, "Path": func(c *impl.Cert) { c.Exts.Path = 11 }, "Path without Ca": func(c *impl.Cert) { c.Exts.Ca = false },
		"too many": func(c *impl.Cert) { c.Exts.Hosts = slices.Repeat([]string{"a"}, 7) }, "a star": func(c *impl.Cert) { c.Exts.Allow = []string{"*.a.org"} }, "Purposes": func(c *impl.Cert) { c.Exts.Purposes = []int{2, 1} },
	}
	for _, by := range signers() {
		for what, wrong := range wrongs {
			c := fullCert()
			wrong(&c)
			saysSigned(t, what, sealedBy(c, by), by.key, false)
			c.Alg, c.Sig = by.alg, by.sign(nil)
			saysSigned(t, what+", over nothing", c, by.key, false)
		}
		unkeyed := sealedBy(fullCert(), by)
		unkeyed.Key = impl.Key{}
		saysSigned(t, "a key that is none", unkeyed, by.key, false)
	}
	saysSigned(t, "nothing", impl.Cert{}, impl.Key{}, false)
}

// eachOtherSig tells signatures with a byte changed, fewer or more, and other bytes.
func eachOtherSig(sig []byte, says func(what string, other []byte)) {
	for i := range sig {
		for _, flip := range []byte{1, 16, 128, 255} {
			other := slices.Clone(sig)
			other[i] ^= flip
			says("a byte changed", other)
		}
		says("a byte fewer", slices.Delete(slices.Clone(sig), i, i+1))
		says("a byte more", slices.Insert(slices.Clone(sig), i, 0))
	}
	for _, other := range [][]byte{nil, {0}, append(slices.Clone(sig), 0), append([]byte{0}, sig...), make([]byte, len(sig)), make([]byte, 1000)} {
		says("other bytes", other)
	}
}

func TestSignedWithAnotherSig(t *testing.T) {
	for _, by := range signers() {
		c := sealedBy(fullCert(), by)
		sig := c.Sig
		eachOtherSig(sig, func(what string, other []byte) {
			c.Sig = other
			saysSigned(t, by.name+", "+what, c, by.key, false)
		})
		c.Sig = sig
		saysSigned(t, by.name+", as it was", c, by.key, true)
	}
}

// The signature is of what Tbs tells, not of the whole, nor of its digest.
func TestSignedIsOverTbs(t *testing.T) {
	for _, by := range signers() {
		c := fullCert()
		c.Alg = by.alg
		tbs := tbsNode(c).text()
		for _, other := range [][]byte{certNode(c).text(), digestOf(tbs), shortOf(tbs), tbs[1:], append(slices.Clone(tbs), 0)} {
			c.Sig = by.sign(other)
			saysSigned(t, by.name+", over other bytes", c, by.key, false)
		}
		c = sealedBy(c, by)
		c.Serial++
		saysSigned(t, by.name+", with another Serial", c, by.key, false)
	}
}
