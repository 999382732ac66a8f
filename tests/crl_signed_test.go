package tests

import (
	"fmt"
	"slices"
	"testing"

	"loop.example/g00148/impl"
)

// issuerAs is the issuer with a change; nobody asks whether it is signed.
func (r register) issuerAs(change func(c *impl.Cert)) impl.Cert {
	c := r.issuer
	change(&c)
	return c
}

func TestCrlSignedByTheRightKey(t *testing.T) {
	s := turn(641)
	for _, by := range allSigners() {
		r := newRegister(by)
		saysCrlSigned(t, by.name+", no Serials", r.list(), r.issuer, true)
		saysCrlSigned(t, by.name+", MaxVoid Serials", r.list(counted(1, voidMost)...), r.issuer, true)
		for range 3 {
			c := s.someCrl()
			saysCrlSigned(t, by.name, sealedCrl(c, by), r.issuerAs(func(up *impl.Cert) { up.Subject = c.Issuer }), true)
		}
		c := greatestCrl()
		saysCrlSigned(t, by.name+", the greatest", sealedCrl(c, by), r.issuerAs(func(up *impl.Cert) { up.Subject = c.Issuer }), true)
	}
}

func TestCrlSignedByUsage(t *testing.T) {
	want := []bool{true, false, false, false, true, true, true, true}
	for _, by := range quickSigners() {
		r := newRegister(by)
		for usage, may := range want {
			for _, ca := range []bool{true, false} {
				up := r.issuerAs(func(c *impl.Cert) { c.Exts.Usage, c.Exts.Ca = usage, ca })
				saysCrlSigned(t, by.name, r.list(5), up, may)
				saysCrlSigned(t, by.name+", full", r.list(5), r.issuerAs(func(c *impl.Cert) { c.Exts, c.Exts.Usage = fullCert().Exts, usage }), may)
			}
		}
		for _, usage := range append(farOff(), -1, -4, 8, 12, 1<<32+4) {
			saysCrlSigned(t, by.name, r.list(5), r.issuerAs(func(c *impl.Cert) { c.Exts.Usage = usage }), false)
		}
	}
}

// Only its name, Usage and key are asked of who signs: neither its times, nor what it may vouch for, nor its own issuer.
func TestCrlSignedAsksNoMore(t *testing.T) {
	r := newRegister(quickSigners()[0])
	for what, change := range map[string]func(c *impl.Cert){
		"not Ca": func(c *impl.Cert) { c.Exts.Ca = false }, "over": func(c *impl.Cert) { c.From, c.To = timeLeast, timeLeast }, "not begun": func(c *impl.Cert) { c.From, c.To = timeMost, timeMost },
		"another issuer": func(c *impl.Cert) { c.Issuer = []string{"nobody"} }, "not signed": func(c *impl.Cert) { c.Sig = []byte{0} }, "another Alg": func(c *impl.Cert) { c.Alg = 1 + c.Alg%4 }, "Serial": func(c *impl.Cert) { c.Serial = 5 },
		"hosts": func(c *impl.Cert) { c.Exts.Hosts, c.Exts.Nets = []string{"a.org"}, [][]int{{1, 2, 3, 4}} }, "Purposes": func(c *impl.Cert) { c.Exts.Purposes = []int{3} }, "Path": func(c *impl.Cert) { c.Exts.Path = 0 },
	} {
		saysCrlSigned(t, what, r.list(5), r.issuerAs(change), true)
	}
}

func TestCrlSignedByNames(t *testing.T) {
	for _, by := range quickSigners() {
		r := newRegister(by)
		says := func(listed []string, subject []string, want bool) {
			t.Helper()
			c := r.listOf(func(c *impl.Crl) { c.Issuer = listed })
			saysCrlSigned(t, fmt.Sprintf("%q and %q", listed, subject), c, r.issuerAs(func(up *impl.Cert) { up.Subject = subject }), want)
		}
		for _, pair := range [][2]string{{"a", "A"}, {"a b", "  A   B "}, {" ", "    "}, {"HALL", "hall"}, {"@a", "@A"}} {
			says([]string{pair[0]}, []string{pair[1]}, true)
			says([]string{pair[1], "x"}, []string{pair[0], " X"}, true)
		}
		for _, pair := range [][2]string{{"a", "b"}, {"a b", "ab"}, {"a", "a a"}, {"@", "`"}, {"[", "{"}, {"a", "a."}} {
			says([]string{pair[0]}, []string{pair[1]}, false)
			says([]string{pair[1], "x"}, []string{pair[0], "x"}, false)
		}
		says([]string{"a"}, []string{"a", "b"}, false)
		says([]string{"a", "b"}, []string{"b", "a"}, false)
		says([]string{"a", "b"}, []string{"a b"}, false)
		// It is the Subject that counts.
		other := r.issuerAs(func(up *impl.Cert) { up.Subject, up.Issuer = []string{"other"}, up.Subject })
		saysCrlSigned(t, "named by its Issuer", r.list(5), other, false)
	}
}

func TestCrlSignedByAnotherKey(t *testing.T) {
	for _, by := range allSigners() {
		r := newRegister(by)
		c := r.list(3, 4, 5)
		for _, other := range allSigners() {
			up := r.issuerAs(func(up *impl.Cert) { up.Key = other.key })
			saysCrlSigned(t, by.name+", by "+other.name, c, up, impl.SameKey(by.key, other.key))
		}
		for what, wrong := range spoiltKeys(by.key) {
			saysCrlSigned(t, what, c, r.issuerAs(func(up *impl.Cert) { up.Key = wrong }), false)
		}
	}
}

func TestCrlSignedByAnotherAlgorithm(t *testing.T) {
	for _, by := range allSigners() {
		r := newRegister(by)
		for _, alg := range allAlgs() {
			c := r.list(3, 4)
			c.Alg = alg
			saysCrlSigned(t, "another Alg behind the signature", c, r.issuer, alg == by.alg)
			other := by
			other.alg = alg
			saysCrlSigned(t, "another Alg", sealedCrl(c, other), r.issuer, alg == by.alg)
		}
	}
}

func TestCrlSignedWithAnotherSig(t *testing.T) {
	for _, by := range allSigners() {
		r := newRegister(by)
		c := r.list(3, 4)
		sig := c.Sig
		eachOtherSig(sig, func(what string, other []byte) {
			c.Sig = other
			saysCrlSigned(t, by.name+", "+what, c, r.issuer, false)
		})
		c.Sig = sig
		saysCrlSigned(t, by.name+", as it was", c, r.issuer, true)
	}
}

// The signature is of what CrlTbs tells, not of the whole, nor of its digest, nor of a certificate.
func TestCrlSignedIsOverCrlTbs(t *testing.T) {
	for _, by := range allSigners() {
		r := newRegister(by)
		c := r.list(3, 4)
		tbs := crlTbsNode(c).text()
		for _, other := range [][]byte{nil, crlNode(c).text(), digestOf(tbs), shortOf(tbs), tbs[1:], append(slices.Clone(tbs), 0), tbsNode(r.issuer).text()} {
			wrong := c
			wrong.Sig = by.sign(other)
			saysCrlSigned(t, by.name+", over other bytes", wrong, r.issuer, false)
		}
		for what, change := range map[string]func(c *impl.Crl){
			"From": func(c *impl.Crl) { c.From-- }, "To": func(c *impl.Crl) { c.To++ }, "Issuer": func(c *impl.Crl) { c.Issuer = []string{"HALL", "Register"} },
			"a Serial": func(c *impl.Crl) { c.Serials = []int{3, 5} }, "a Serial more": func(c *impl.Crl) { c.Serials = []int{3, 4, 5} }, "a Serial fewer": func(c *impl.Crl) { c.Serials = []int{3} }, "no Serials": func(c *impl.Crl) { c.Serials = nil },
		} {
			wrong := c
			change(&wrong)
			saysCrlSigned(t, by.name+", another "+what, wrong, r.issuer, false)
		}
	}
}

func TestCrlSignedOfWhatIsNotOk(t *testing.T) {
	for _, by := range allSigners() {
		r := newRegister(by)
		for what, change := range wrongCrls() {
			c := r.listOf(change)
			up := r.issuerAs(func(up *impl.Cert) { up.Subject = c.Issuer })
			saysCrlSigned(t, what, c, r.issuer, false)
			saysCrlSigned(t, what, c, up, false)
		}
		for what, change := range unsignableCrls() {
			c := r.list(5)
			change(&c)
			saysCrlSigned(t, what, c, r.issuer, false)
		}
	}
}

func TestCrlSignedByOneThatIsNotOk(t *testing.T) {
	for _, by := range quickSigners() {
		r := newRegister(by)
		for _, wrongs := range []map[string]func(c *impl.Cert){wrongCerts(), unsignableCerts()} {
			for what, change := range wrongs {
				up := r.issuerAs(change)
				c := r.listOf(func(c *impl.Crl) {
					if isName(up.Subject) {
						c.Issuer = up.Subject
					}
				})
				saysCrlSigned(t, what, c, up, false)
			}
		}
	}
	saysCrlSigned(t, "nothing by nobody", impl.Crl{}, impl.Cert{}, false)
}
